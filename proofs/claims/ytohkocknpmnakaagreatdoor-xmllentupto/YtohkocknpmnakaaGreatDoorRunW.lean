/-
  The mathematics of elements that hold a text: however they are written.
-/
import Derived.Test.YtohkocknpmnakaaGreatDoorRpF
import Derived.Test.YtohkocknpmnakaaGreatDoorCount
import Derived.Test.YtohkocknpmnakaaGreatDoorEsM
import Derived.Test.YtohkocknpmnakaaGreatDoorPrC
import Derived.LaidEql
import Derived.MapKept
import Derived.WideKeyRuns
import Derived.Carry
import Derived.Test.YtohkocknpmnakaaGreatDoorPrD
namespace Go.Proofs.YtohkocknpmnakaaGreatDoor

/-- White alone. -/
def whB (l : List UInt8) : Bool := l.all wsB
theorem skp_white {x y : List UInt8} (h : whB x = true) : skp (x ++ y) = skp y := by
  induction x with
  | nil => rfl
  | cons c r ih =>
    simp only [whB, List.all_cons, Bool.and_eq_true] at h
    rw [List.cons_append, skp_cons h.1]
    exact ih h.2
/-- No sign '<' in it. -/
def noLt (l : List UInt8) : Bool := l.all (fun c => c != 60)
theorem upto_text {p y : List UInt8} (h : noLt p = true) : upto 60 (p ++ 60 :: y) = p := by
  induction p with
  | nil => simp [upto]
  | cons c r ih =>
    simp only [noLt, List.all_cons, Bool.and_eq_true] at h
    have := ih h.2
    unfold upto at this ⊢
    rw [List.cons_append, List.takeWhile_cons_of_pos (p := fun x => x != 60) (by exact h.1), this]
/-- A name, and then something that is none of it. -/
theorem nm_stop {n y : List UInt8} {c : UInt8} (hn : nmL n = n) (h0 : n ≠ []) (hc : innB c = false) : nmL (n ++ c :: y) = n := by
  rw [nm_app hn h0, List.takeWhile_cons_of_neg (by rw [hc]; decide), List.append_nil]
theorem eat_app (x y : List UInt8) : eat x (x ++ y) = some y := by
  unfold eat
  rw [if_pos ((hasPrefix_iff _ _).2 ⟨y, rfl⟩), List.drop_left]
theorem eat_cons (c : UInt8) (y : List UInt8) : eat [c] (c :: y) = some y := eat_app [c] y
theorem close_at {n ws y : List UInt8} (hw : whB ws = true) : closeL n (60 :: 47 :: (n ++ (ws ++ 62 :: y))) = some y := by
  unfold closeL
  have h1 : eat [60, 47] (60 :: 47 :: (n ++ (ws ++ 62 :: y))) = some (n ++ (ws ++ 62 :: y)) := eat_app [60, 47] _
  rw [h1, Option.bind_some, eat_app, Option.bind_some, skp_white hw, skp_stop (by decide), eat_cons]
/-- The content of an element that holds a text. -/
theorem cont_at (e : List UInt8 → Option (Nod × List UInt8)) {p y : List UInt8} (hp : noLt p = true) : contF une e (p ++ 60 :: 47 :: y) = (une p).map fun x => (x, [], 60 :: 47 :: y) := by
  have hu := upto_text (y := 47 :: y) hp
  unfold contF
  rw [hu, if_neg (by simp), if_pos]
  · rw [List.drop_left]
  · rw [← List.drop_drop, List.drop_left]
    exact (hasPrefix_iff _ _).2 ⟨y, rfl⟩
/-- Behind the attributes: an element with a text. -/
theorem rest_at (e : List UInt8 → Option (Nod × List UInt8)) {n p ws y : List UInt8} (hp : noLt p = true) (hw : whB ws = true) : restF une e n (62 :: (p ++ 60 :: 47 :: (n ++ (ws ++ 62 :: y)))) = (une p).map fun x => (.nd n x [], y) := by
  unfold restF
  have h1 : eat [47, 62] (62 :: (p ++ 60 :: 47 :: (n ++ (ws ++ 62 :: y)))) = none := by
    unfold eat
    rw [if_neg]
    rw [hasPrefix_iff]
    rintro ⟨x, hx⟩
    injection hx with hx _
    cases hx
  rw [h1]
  simp only
  rw [eat_cons, Option.bind_some, cont_at e hp]
  cases une p with
  | none => rfl
  | some x =>
    simp only [Option.map_some, Option.bind_some]
    rw [close_at hw]
    rfl
/-- Behind the attributes: an element that ends at once. -/
theorem rest_end (e : List UInt8 → Option (Nod × List UInt8)) {n y : List UInt8} : restF une e n (47 :: 62 :: y) = some (.nd n [] [], y) := by
  unfold restF
  have h1 : eat [47, 62] (47 :: 62 :: y) = some y := eat_app [47, 62] y
  rw [h1]
/-- An element: its name, what stands in its tag, the rest. -/
theorem elem_at (k : Nat) {n y r : List UInt8} {c : UInt8} (hn : nmL n = n) (h0 : n ≠ []) (hc : innB c = false) (ha : atsF ((c :: y).length + 1) (c :: y) = some r) : elemF une (k + 1) (60 :: (n ++ c :: y)) = restF une (elemF une k) n r := by
  have hnm : nmL (n ++ c :: y) = n := nm_stop hn h0 hc
  rw [elemF_eq, eat_cons, Option.bind_some, hnm, if_neg h0, List.drop_left, ha, Option.bind_some]
/-- No attributes, perhaps white. -/
theorem ats_white (f : Nat) {ws y : List UInt8} {c : UInt8} (hw : whB ws = true) (hc : wsB c = false) (hl : letB c = false) : atsF (f + 1) (ws ++ c :: y) = some (c :: y) := by
  have hs : skp (ws ++ c :: y) = c :: y := by rw [skp_white hw, skp_stop hc]
  rw [ats_stop (by rw [hs]; exact nm_no hl), hs]
theorem kids_end (e : List UInt8 → Option (Nod × List UInt8)) (f : Nat) {ws y : List UInt8} (hw : whB ws = true) : kidsF e (f + 1) (ws ++ 60 :: 47 :: y) = some ([], 60 :: 47 :: y) := by
  have hs : skp (ws ++ 60 :: 47 :: y) = 60 :: 47 :: y := by rw [skp_white hw, skp_stop (by decide)]
  simp only [kidsF, hs]
  rw [if_pos (show Lib.hasPrefix (60 :: 47 :: y) [60, 47] = true from (hasPrefix_iff _ _).2 ⟨y, rfl⟩)]
theorem kids_cons (e : List UInt8 → Option (Nod × List UInt8)) (f : Nat) {ws y : List UInt8} {c : UInt8} (hw : whB ws = true) (hc : c ≠ 47) : kidsF e (f + 1) (ws ++ 60 :: c :: y) = (e (60 :: c :: y)).bind fun p => (kidsF e f p.2).map fun q => (p.1 :: q.1, q.2) := by
  have hs : skp (ws ++ 60 :: c :: y) = 60 :: c :: y := by rw [skp_white hw, skp_stop (by decide)]
  simp only [kidsF, hs]
  rw [if_neg]
  rw [hasPrefix_iff]
  rintro ⟨x, hx⟩
  injection hx with _ hx
  injection hx with hx _
  exact hc hx
/-- An element with a text and no attributes. -/
theorem elem_plain (k : Nat) {n p ws y : List UInt8} (hn : nmL n = n) (h0 : n ≠ []) (hp : noLt p = true) (hw : whB ws = true) : elemF une (k + 1) (60 :: (n ++ 62 :: (p ++ 60 :: 47 :: (n ++ (ws ++ 62 :: y))))) = (une p).map fun x => (.nd n x [], y) := by
  rw [elem_at k hn h0 (by decide) (ats_white _ (ws := []) rfl (by decide) (by decide)), rest_at _ hp hw]
/-- An element that ends at once. -/
theorem elem_empty (k : Nat) {n ws y : List UInt8} (hn : nmL n = n) (h0 : n ≠ []) (hw : whB ws = true) : elemF une (k + 1) (60 :: (n ++ (ws ++ 47 :: 62 :: y))) = some (.nd n [] [], y) := by
  cases ws with
  | nil => rw [List.nil_append, elem_at k hn h0 (by decide) (ats_white _ (ws := []) rfl (by decide) (by decide)), rest_end]
  | cons c r =>
    have hc : wsB c = true := by
      simp only [whB, List.all_cons, Bool.and_eq_true] at hw
      exact hw.1
    have hi : innB c = false := by
      cases h : innB c with
      | false => rfl
      | true => rw [(inn_ws h).1] at hc; cases hc
    have ha : atsF ((c :: (r ++ 47 :: 62 :: y)).length + 1) (c :: (r ++ 47 :: 62 :: y)) = some (47 :: 62 :: y) := ats_white _ (ws := c :: r) (c := 47) hw (by decide) (by decide)
    rw [List.cons_append, elem_at k hn h0 hi ha, rest_end]
end Go.Proofs.YtohkocknpmnakaaGreatDoor
/-
  The documents of XmlWhite: an element with three in it.
-/
namespace Go.Proofs.YtohkocknpmnakaaGreatDoor

/-- Three elements, one behind the other, white between. -/
theorem kids_three (e : List UInt8 → Option (Nod × List UInt8)) (f : Nat) {w1 w2 w3 w4 y1 y2 y3 y4 : List UInt8} {c1 c2 c3 : UInt8} {ox oy : Option (List UInt8)} {k v z : List UInt8} (hw1 : whB w1 = true) (hw2 : whB w2 = true) (hw3 : whB w3 = true) (hw4 : whB w4 = true) (hc1 : c1 ≠ 47) (hc2 : c2 ≠ 47) (hc3 : c3 ≠ 47)
    (h1 : e (60 :: c1 :: y1) = ox.map fun x => (.nd k x [], w2 ++ 60 :: c2 :: y2)) (h2 : e (60 :: c2 :: y2) = oy.map fun y => (.nd v y [], w3 ++ 60 :: c3 :: y3)) (h3 : e (60 :: c3 :: y3) = some (.nd z [] [], w4 ++ 60 :: 47 :: y4)) :
    kidsF e (f + 4) (w1 ++ 60 :: c1 :: y1) = ox.bind fun x => oy.map fun y => ([.nd k x [], .nd v y [], .nd z [] []], 60 :: 47 :: y4) := by
  rw [kids_cons e (f + 3) hw1 hc1, h1]
  cases ox with
  | none => rfl
  | some x =>
    simp only [Option.map_some, Option.bind_some]
    rw [kids_cons e (f + 2) hw2 hc2, h2]
    cases oy with
    | none => rfl
    | some y =>
      simp only [Option.map_some, Option.bind_some]
      rw [kids_cons e (f + 1) hw3 hc3, h3]
      simp only [Option.bind_some]
      rw [kids_end e f hw4]
      rfl
/-- Behind the attributes: an element with elements in it. -/
theorem rest_kids (k : Nat) {n b ws y : List UInt8} {o : Option (List Nod)} (hb : kB (skp b) = true) (hw : whB ws = true) (hk : kidsF (elemF une k) (b.length + 1) b = o.map fun ks => (ks, 60 :: 47 :: (n ++ (ws ++ 62 :: y)))) : restF une (elemF une k) n (62 :: b) = o.map fun ks => (.nd n [] ks, y) := by
  unfold restF
  have h1 : eat [47, 62] (62 :: b) = none := by
    unfold eat
    rw [if_neg]
    rw [hasPrefix_iff]
    rintro ⟨x, hx⟩
    injection hx with hx _
    cases hx
  rw [h1]
  simp only
  rw [eat_cons, Option.bind_some, cont_kids k hb, hk]
  cases o with
  | none => rfl
  | some ks =>
    simp only [Option.map_some, Option.bind_some]
    rw [close_at hw]
    rfl
theorem kB_white {w y : List UInt8} {c : UInt8} (hw : whB w = true) (hc : c ≠ 47) : kB (skp (w ++ 60 :: c :: y)) = true := by
  rw [skp_white hw, skp_stop (by decide)]
  simpa [kB] using hc
theorem skp_all {w : List UInt8} (h : whB w = true) : skp w = [] := by
  have := skp_white (y := []) h
  rw [List.append_nil] at this
  rw [this]
  rfl
theorem decl_at {w0 y : List UInt8} (h : whB w0 = true) : declL (w0 ++ 60 :: 114 :: y) = some (w0 ++ 60 :: 114 :: y) := by
  have he : eat [60, 63, 120, 109, 108] (w0 ++ 60 :: 114 :: y) = none := by
    unfold eat
    rw [if_neg]
    rw [hasPrefix_iff]
    rintro ⟨x, hx⟩
    cases w0 with
    | nil =>
      injection hx with _ hx
      injection hx with hx _
      cases hx
    | cons c r =>
      simp only [whB, List.all_cons, Bool.and_eq_true] at h
      injection hx with hx _
      rw [hx] at h
      exact absurd h.1 (by decide)
  unfold declL
  rw [he]
/-- A document: an element r with elements in it, white around. -/
theorem doc_at {w0 yA b ws w6 : List UInt8} {c : UInt8} {o : Option (List Nod)} (hw0 : whB w0 = true) (hc : innB c = false) (ha : atsF ((c :: yA).length + 1) (c :: yA) = some (62 :: b)) (hb : kB (skp b) = true) (hws : whB ws = true) (hw6 : whB w6 = true)
    (hk : kidsF (elemF une 15) (b.length + 1) b = o.map fun ks => (ks, 60 :: 47 :: ([114] ++ (ws ++ 62 :: w6)))) : docF une (w0 ++ 60 :: 114 :: c :: yA) = o.map fun ks => .nd [114] [] ks := by
  unfold docF
  rw [decl_at hw0, Option.bind_some, skp_white hw0, skp_stop (by decide)]
  rw [show 60 :: 114 :: c :: yA = 60 :: ([114] ++ c :: yA) from rfl, elem_at 15 (n := [114]) (by decide) (by decide) hc ha, rest_kids 15 hb hws hk]
  cases o with
  | none => rfl
  | some ks =>
    simp only [Option.map_some, Option.bind_some, skp_all hw6, if_true]
end Go.Proofs.YtohkocknpmnakaaGreatDoor
/-
  The two documents of XmlWhite.
-/
namespace Go.Proofs.YtohkocknpmnakaaGreatDoor

theorem atr_one (n q v : UInt8) (b : List UInt8) (hn : letB n = true) (hq : q = 34 ∨ q = 39) (hv : v ≠ q) (hv2 : v ≠ 60) (hv3 : v ≠ 38) : atrL (n :: 61 :: q :: v :: q :: 62 :: b) = some (62 :: b) := by
  have h1 : nmL (n :: 61 :: q :: v :: q :: 62 :: b) = [n] := by
    rw [nm_let hn, List.takeWhile_cons_of_pos (let_inn hn), List.takeWhile_cons_of_neg (by decide)]
  unfold atrL
  rw [h1]
  have h2 : colL ((n :: 61 :: q :: v :: q :: 62 :: b).drop [n].length) = some (61 :: q :: v :: q :: 62 :: b) := by
    show colL (61 :: q :: v :: q :: 62 :: b) = _
    unfold colL
    have he : eat [58] (61 :: q :: v :: q :: 62 :: b) = none := by
      unfold eat
      rw [if_neg]
      rw [hasPrefix_iff]
      rintro ⟨x, hx⟩
      injection hx with hx _
      cases hx
    rw [he]
  have hws : wsB q = false := by rcases hq with rfl | rfl <;> decide
  rw [h2, Option.bind_some, skp_stop (by decide), eat_cons, Option.bind_some, skp_stop hws]
  have hu : upto q (v :: q :: 62 :: b) = [v] := by
    unfold upto
    rw [List.takeWhile_cons_of_pos (by simpa using hv), List.takeWhile_cons_of_neg (by simp)]
  simp only [quoL, hq, if_true, hu]
  rw [if_neg (by simp [hv2, hv3])]
  rfl
theorem ats_attr (f : Nat) {w b : List UInt8} {n q v : UInt8} (hw : whB w = true) (hn : letB n = true) (hq : q = 34 ∨ q = 39) (hv : v ≠ q) (hv2 : v ≠ 60) (hv3 : v ≠ 38) : atsF (f + 2) (w ++ 32 :: n :: 61 :: q :: v :: q :: 62 :: b) = some (62 :: b) := by
  have hnw : wsB n = false := by
    cases h : wsB n with
    | false => rfl
    | true =>
      have := (inn_ws (let_inn hn)).1
      rw [this] at h
      cases h
  have hs : skp (w ++ 32 :: n :: 61 :: q :: v :: q :: 62 :: b) = n :: 61 :: q :: v :: q :: 62 :: b := by
    rw [skp_white hw, skp_cons (by decide), skp_stop hnw]
  have hnm : nmL (n :: 61 :: q :: v :: q :: 62 :: b) ≠ [] := by
    rw [nm_let hn, List.takeWhile_cons_of_pos (let_inn hn)]
    simp
  rw [ats_go (by rw [hs]; simp; omega) (by rw [hs]; exact hnm), hs, atr_one n q v b hn hq hv hv2 hv3, Option.bind_some]
  exact ats_white f (ws := []) rfl (by decide) (by decide)
/-- An element with a text and one attribute. -/
theorem elem_attr (k : Nat) {m p ws y : List UInt8} {n q v : UInt8} (hm : nmL m = m) (h0 : m ≠ []) (hn : letB n = true) (hq : q = 34 ∨ q = 39) (hv : v ≠ q) (hv2 : v ≠ 60) (hv3 : v ≠ 38) (hp : noLt p = true) (hw : whB ws = true) : elemF une (k + 1) (60 :: (m ++ 32 :: n :: 61 :: q :: v :: q :: 62 :: (p ++ 60 :: 47 :: (m ++ (ws ++ 62 :: y))))) = (une p).map fun x => (.nd m x [], y) := by
  rw [elem_at k hm h0 (by decide) (ats_attr _ (w := []) rfl hn hq hv hv2 hv3), rest_at _ hp hw]
/-- What both documents hold. -/
def resW (P Q : List UInt8) : Option (List Nod) := (une P).bind fun x => (une Q).map fun y => [.nd [107] x [], .nd [118] y [], .nd [122] [] []]
def t1B (P Q : List UInt8) : List UInt8 := [] ++ 60 :: 107 :: (62 :: (P ++ 60 :: 47 :: ([107] ++ ([] ++ 62 :: ([] ++ 60 :: 118 :: (62 :: (Q ++ 60 :: 47 :: ([118] ++ ([] ++ 62 :: ([] ++ 60 :: 122 :: (62 :: ([] ++ 60 :: 47 :: ([122] ++ ([] ++ 62 :: ([] ++ 60 :: 47 :: ([114] ++ ([] ++ 62 :: [])))))))))))))))))
def t1L (P Q : List UInt8) : List UInt8 := [] ++ 60 :: 114 :: 62 :: t1B P Q
def t2B (w P Q : List UInt8) : List UInt8 := w ++ 60 :: 107 :: (32 :: 121 :: 61 :: 34 :: 50 :: 34 :: 62 :: (P ++ 60 :: 47 :: ([107] ++ (w ++ 62 :: (w ++ 60 :: 118 :: (62 :: (Q ++ 60 :: 47 :: ([118] ++ ([] ++ 62 :: (w ++ 60 :: 122 :: (w ++ 47 :: 62 :: (w ++ 60 :: 47 :: ([114] ++ ([] ++ 62 :: w))))))))))))))
theorem res_kids (P Q y4 : List UInt8) : ((une P).bind fun x => (une Q).map fun y => ([Nod.nd [107] x [], .nd [118] y [], .nd [122] [] []], y4)) = (resW P Q).map fun ks => (ks, y4) := by
  unfold resW
  cases une P with
  | none => rfl
  | some x =>
    cases une Q with
    | none => rfl
    | some y => rfl
theorem une_none : une [] = some [] := rfl
theorem doc_one {P Q : List UInt8} (hP : noLt P = true) (hQ : noLt Q = true) : docF une (t1L P Q) = (resW P Q).map fun ks => .nd [114] [] ks := by
  unfold t1L
  refine doc_at (w0 := []) (ws := []) (w6 := []) rfl (by decide) (ats_white _ (ws := []) rfl (by decide) (by decide)) (kB_white (w := []) rfl (by decide)) rfl rfl ?_
  have e : (t1B P Q).length + 1 = ((t1B P Q).length - 3) + 4 := by
    unfold t1B
    simp only [List.length_append, List.length_cons, List.length_nil]
    omega
  rw [e]
  generalize (t1B P Q).length - 3 = f
  unfold t1B
  have h3 := elem_plain 14 (n := [122]) (p := []) (ws := []) (y := [] ++ 60 :: 47 :: ([114] ++ ([] ++ 62 :: []))) (by decide) (by decide) rfl rfl
  rw [une_none] at h3
  exact (kids_three (elemF une 15) f (w1 := []) (w2 := []) (w3 := []) (w4 := []) (ox := une P) (oy := une Q) (k := [107]) (v := [118]) (z := [122]) rfl rfl rfl rfl (by decide) (by decide) (by decide) (elem_plain 14 (n := [107]) (ws := []) (by decide) (by decide) hP rfl) (elem_plain 14 (n := [118]) (ws := []) (by decide) (by decide) hQ rfl) h3).trans (res_kids P Q _)
theorem doc_two {w P Q : List UInt8} (hw : whB w = true) (hP : noLt P = true) (hQ : noLt Q = true) : docF une (w ++ 60 :: 114 :: (w ++ 32 :: 120 :: 61 :: 39 :: 49 :: 39 :: 62 :: t2B w P Q)) = (resW P Q).map fun ks => .nd [114] [] ks := by
  have hk : kidsF (elemF une 15) ((t2B w P Q).length + 1) (t2B w P Q) = (resW P Q).map fun ks => (ks, 60 :: 47 :: ([114] ++ ([] ++ 62 :: w))) := by
    have e : (t2B w P Q).length + 1 = ((t2B w P Q).length - 3) + 4 := by
      unfold t2B
      simp only [List.length_append, List.length_cons, List.length_nil]
      omega
    rw [e]
    generalize (t2B w P Q).length - 3 = f
    unfold t2B
    exact (kids_three (elemF une 15) f (w1 := w) (w2 := w) (w3 := w) (w4 := w) (ox := une P) (oy := une Q) (k := [107]) (v := [118]) (z := [122]) hw hw hw hw (by decide) (by decide) (by decide) (elem_attr 14 (m := [107]) (ws := w) (n := 121) (q := 34) (v := 50) (by decide) (by decide) (by decide) (.inl rfl) (by decide) (by decide) (by decide) hP hw) (elem_plain 14 (n := [118]) (ws := []) (by decide) (by decide) hQ rfl) (elem_empty 14 (n := [122]) (by decide) (by decide) hw)).trans (res_kids P Q _)
  have hkB : kB (skp (t2B w P Q)) = true := kB_white hw (by decide)
  cases w with
  | nil =>
    refine doc_at (w0 := []) (c := 32) (ws := []) (w6 := []) rfl (by decide) ?_ hkB rfl rfl hk
    exact ats_attr _ (w := []) rfl (by decide) (.inr rfl) (by decide) (by decide) (by decide)
  | cons d r =>
    have hd : wsB d = true := by
      simp only [whB, List.all_cons, Bool.and_eq_true] at hw
      exact hw.1
    have hi : innB d = false := by
      cases h : innB d with
      | false => rfl
      | true => rw [(inn_ws h).1] at hd; cases hd
    refine doc_at (w0 := d :: r) (c := d) (ws := []) (w6 := d :: r) hw hi ?_ hkB rfl hw hk
    exact ats_attr _ (w := d :: r) hw (by decide) (.inr rfl) (by decide) (by decide) (by decide)
end Go.Proofs.YtohkocknpmnakaaGreatDoor
/-
  Legal texts: one that is followed by a sign of ASCII.
-/
namespace Go.Proofs.YtohkocknpmnakaaGreatDoor

theorem dec_bad (n m b0 b1 b2 b3 c1 c2 c3 : Nat) (hn : 1 ≤ n) (hm : n < m) (h1 : 1 < n → c1 = b1) (h2 : 2 < n → c2 = b2) (h3 : 3 < n → c3 = b3) (k1 : n = 1 → c1 < 128) (k2 : n = 2 → c2 < 128) (k3 : n = 3 → c3 < 128)
    (hb : (Lib.decodeN n b0 b1 b2 b3).1 = 65533 ∧ (Lib.decodeN n b0 b1 b2 b3).2 = 1) : (Lib.decodeN m b0 c1 c2 c3).1 = 65533 ∧ (Lib.decodeN m b0 c1 c2 c3).2 = 1 := by
  by_cases hb3 : 3 < n
  · obtain rfl := h1 (by omega)
    obtain rfl := h2 (by omega)
    obtain rfl := h3 hb3
    have e : Lib.decodeN m b0 c1 c2 c3 = Lib.decodeN n b0 c1 c2 c3 := by
      have a1 : 1 < n := by omega
      have a2 : 2 < n := by omega
      have a3 : 1 < m := by omega
      have a4 : 2 < m := by omega
      have a5 : 3 < m := by omega
      unfold Lib.decodeN
      simp only [hb3, a1, a2, a3, a4, a5, true_and]
    rw [e]
    exact hb
  · have hn3 : n = 1 ∨ n = 2 ∨ n = 3 := by omega
    have hd : ∀ x : Nat, x < 128 → ¬ x / 64 = 2 := fun x hx => by omega
    rcases hn3 with rfl | rfl | rfl
    · have q1 := hd _ (k1 rfl)
      unfold Lib.decodeN at hb ⊢
      simp only [q1, and_false, false_and, if_false] at hb ⊢
      (repeat' split at hb) <;> (repeat' split) <;> simp_all <;> omega
    · obtain rfl := h1 (by omega)
      have q2 := hd _ (k2 rfl)
      unfold Lib.decodeN at hb ⊢
      simp only [q2, and_false, false_and, if_false] at hb ⊢
      (repeat' split at hb) <;> (repeat' split) <;> simp_all <;> omega
    · obtain rfl := h1 (by omega)
      obtain rfl := h2 (by omega)
      have q3 := hd _ (k3 rfl)
      unfold Lib.decodeN at hb ⊢
      simp only [q3, and_false, if_false] at hb ⊢
      (repeat' split at hb) <;> (repeat' split) <;> simp_all <;> omega
theorem at0_left {l x : List UInt8} {k : Nat} (h : k < l.length) : at0 (l ++ x) k = at0 l k := by
  unfold at0
  rw [List.getD_eq_getElem?_getD, List.getD_eq_getElem?_getD, List.getElem?_append_left h]
theorem at0_mid {l m : List UInt8} {c : UInt8} : at0 (l ++ c :: m) l.length = c.toNat := by
  unfold at0
  rw [List.getD_eq_getElem?_getD, List.getElem?_append_right (Nat.le_refl _), Nat.sub_self]
  rfl
theorem step_badA {l m : List UInt8} {c : UInt8} (hl : l ≠ []) (hc : c.toNat < 128) (hb : (stepL l).2 = 0) : (stepL (l ++ c :: m)).2 = 0 := by
  have hpos := List.length_pos_iff.2 hl
  have hd : (decL l).1 = 65533 ∧ (decL l).2 = 1 := by
    unfold stepL at hb
    split at hb
    · next h => exact h
    · have := (dec_width l.length (at0 l 0) (at0 l 1) (at0 l 2) (at0 l 3) hpos).1
      unfold decL at hb
      omega
  have hd2 : (decL (l ++ c :: m)).1 = 65533 ∧ (decL (l ++ c :: m)).2 = 1 := by
    unfold decL at hd ⊢
    rw [at0_left (x := c :: m) hpos]
    exact dec_bad l.length _ _ (at0 l 1) (at0 l 2) (at0 l 3) _ _ _ hpos (by simp) (fun h => at0_left h) (fun h => at0_left h) (fun h => at0_left h) (fun h => by have e := at0_mid (l := l) (m := m) (c := c); rw [h] at e; omega) (fun h => by have e := at0_mid (l := l) (m := m) (c := c); rw [h] at e; omega) (fun h => by have e := at0_mid (l := l) (m := m) (c := c); rw [h] at e; omega) hd
  unfold stepL
  rw [if_pos hd2]
theorem cnt_none (p : Nat → Bool) : ∀ (n : Nat) (l : List UInt8), l.length ≤ n → cntP (fun _ => true) l = none → cntP p l = none ∧ ∀ (m : List UInt8) (c : UInt8), c.toNat < 128 → cntP p (l ++ c :: m) = none
  | n, [], _, h => by rw [cntP_nil] at h; cases h
  | 0, c :: l, h, _ => by simp at h
  | n + 1, d :: l', hn, h => by
    have hl : d :: l' ≠ [] := by simp
    generalize hL : d :: l' = l at *
    by_cases hb : (stepL l).2 = 0
    · exact ⟨cntP_bad hl hb, fun m c hc => cntP_bad (by simp) (step_badA hl hc hb)⟩
    · have hw := step_le l hl
      rw [cntP_go hl hb rfl] at h
      have hdn : cntP (fun _ => true) (l.drop (stepL l).2) = none := by
        cases hh : cntP (fun _ => true) (l.drop (stepL l).2) with
        | none => rfl
        | some a => rw [hh] at h; cases h
      have ih := cnt_none p n (l.drop (stepL l).2) (by simp only [List.length_drop]; omega) hdn
      constructor
      · rw [cntP_step p l hl, ih.1]
        split <;> rfl
      · intro m c hc
        have hst := step_append (c :: m) hl hb
        have hdr : (l ++ c :: m).drop (stepL l).2 = l.drop (stepL l).2 ++ c :: m := List.drop_append_of_le_length hw.1
        rw [cntP_step p (l ++ c :: m) (by simp), hst, hdr, ih.2 m c hc]
        split <;> rfl
/-- A text and what follows it, where that begins with a sign of ASCII. -/
theorem legal_app (p : Nat → Bool) (l m : List UInt8) (c : UInt8) (hc : c.toNat < 128) : (cntP p (l ++ c :: m)).isSome = ((cntP p l).isSome && (cntP p (c :: m)).isSome) := by
  cases h : cntP (fun _ => true) l with
  | some a => exact (cntP_append p l.length l (c :: m) a (Nat.le_refl _) h).1
  | none =>
    have hh := cnt_none p l.length l (Nat.le_refl _) h
    rw [hh.1, hh.2 m c hc]
    rfl
end Go.Proofs.YtohkocknpmnakaaGreatDoor
/-
  What an element is printed as: the plain mathematics.
-/
namespace Go.Proofs.YtohkocknpmnakaaGreatDoor

mutual
def elL : List UInt8 → Nod → List UInt8
  | at', .nd n t ks => [[60], n, at', [62], escX t].flatten ++ elsL ks ++ [[60, 47], n, [62]].flatten
def elsL : List Nod → List UInt8
  | [] => []
  | t :: ts => elL [] t ++ elsL ts
end
theorem elL_eq (at' : List UInt8) (t : Nod) : elL at' t = [[60], t.nm, at', [62], escX t.tx].flatten ++ elsL t.ks ++ [[60, 47], t.nm, [62]].flatten := by
  cases t
  rw [elL]
  rfl
theorem els_nil : elsL [] = [] := by rw [elsL]
theorem els_cons (t : Nod) (ts : List Nod) : elsL (t :: ts) = elL [] t ++ elsL ts := by rw [elsL]
theorem els_app (a b : List Nod) : elsL (a ++ b) = elsL a ++ elsL b := by
  induction a with
  | nil => rw [els_nil]; rfl
  | cons t ts ih => rw [List.cons_append, els_cons, els_cons, ih, List.append_assoc]
theorem els_take {ks : List Nod} {k : Nat} (h : k < ks.length) : elsL (ks.take (k + 1)) = elsL (ks.take k) ++ elL [] ks[k] := by
  rw [List.take_succ_eq_append_getElem h, els_app, els_cons, els_nil, List.append_nil]
theorem els_take_le (ks : List Nod) (k : Nat) : (elsL (ks.take k)).length ≤ (elsL ks).length := by
  conv => rhs; rw [← List.take_append_drop k ks, els_app, List.length_append]
  omega
theorem el_len (at' : List UInt8) (t : Nod) : 5 ≤ (elL at' t).length := by
  rw [elL_eq]
  simp only [List.length_append, List.flatten_cons, List.flatten_nil, List.length_cons, List.length_nil]
  omega
theorem els_len : ∀ ks : List Nod, 5 * ks.length ≤ (elsL ks).length
  | [] => by simp
  | t :: ts => by
    have h1 := els_len ts
    have h2 := el_len [] t
    rw [els_cons, List.length_append, List.length_cons]
    omega
theorem escB_pos (c : UInt8) : 1 ≤ (escB c).length := by
  unfold escB
  split
  · simp
  · next h =>
    cases he : eoL (c.toNat : Int) with
    | nil => exact absurd he h
    | cons a r => simp
theorem escX_ge : ∀ l : List UInt8, l.length ≤ (escX l).length
  | [] => by simp
  | c :: r => by
    have := escX_ge r
    have h := escB_pos c
    have e : escX (c :: r) = escB c ++ escX r := by simp [escX]
    rw [e, List.length_append, List.length_cons]
    omega
end Go.Proofs.YtohkocknpmnakaaGreatDoor
/-
  printElement, of every element in memory.
-/
namespace Go.Proofs.YtohkocknpmnakaaGreatDoor
open Go.RowKit

theorem ok_below {e : TypeId} {bo : Option Nat} {a w w' : World} (h : Lib.OthersKept e bo a w) (hb : Below w.heap.size w w') : Lib.OthersKept e bo a w' := by
  intro k x hk hbk hx
  have h1 := h k x hk hbk hx
  exact (hb.block k (blk_lt h1)).trans h1
/-- A builder, a node's box and a row of texts beside it. -/
structure Pk (W : World) (B b0 g : Nat) (n t : List UInt8) (v : Value) (xs : List (List UInt8)) (bl : List UInt8) (w : World) : Prop where
  bu : Lib.IsBuilderF 66 5 B B (Lib.byteCells bl) w
  bx : Bx w b0 n t v
  row : w.heap[g]? = some (.cells (xs.map fun x => Value.string ⟨x.toArray⟩).toArray 9 (0, 0))
  bw : Below B W w
  le : B ≤ w.heap.size
  ne : b0 ≠ B ∧ g ≠ B
  ok : Lib.OthersKept 5 (some B) W w
theorem Pk.then {W : World} {B b0 g : Nat} {n t : List UInt8} {v : Value} {xs : List (List UInt8)} {bl bl' : List UInt8} {w w' : World} (h : Pk W B b0 g n t v xs bl w) (h1 : Lib.IsBuilderF 66 5 B B (Lib.byteCells bl') w') (h2 : Below B w w') (h3 : Lib.OthersKept 5 (some B) w w') : Pk W B b0 g n t v xs bl' w' := by
  refine ⟨h1, ?_, ?_, h.bw.trans h2, Nat.le_trans h.le h2.size, h.ne, h.ok.trans h3⟩
  · exact h3 _ _ h.bx (by simpa using h.ne.1) (by intro c fz e; injection e with _ e _; cases e)
  · exact h3 _ _ h.row (by simpa using h.ne.2) (by intro c fz e; injection e with _ e _; cases e)
theorem Pk.write {W : World} {B b0 g : Nat} {n t : List UInt8} {v : Value} {xs : List (List UInt8)} {bl : List UInt8} {w : World} (h : Pk W B b0 g n t v xs bl w) (x : ByteArray) (hl : bl.length + x.size ≤ 140737488355328) :
    Calls Tryz.prog 35 #[.pointer (some ⟨B, 0, none⟩), .string x] w fun e w' => e = .returned (.tuple #[.int .i64 x.size, .nilIface]) ∧ Pk W B b0 g n t v xs (bl ++ x.data.toList) w' := by
  refine (ws_any B w bl x h.bu hl h.le).mono ?_
  rintro e w' ⟨rfl, h1, h2, h3⟩
  exact ⟨rfl, h.then h1 h2 h3⟩
theorem Pk.cell {W : World} {B b0 g : Nat} {n t : List UInt8} {v : Value} {xs : List (List UInt8)} {bl : List UInt8} {w : World} (h : Pk W B b0 g n t v xs bl w) (k : Nat) (hk : k < xs.length) : w.cell? ⟨g, k, none⟩ = some (.string ⟨(xs[k]).toArray⟩) := by
  rw [cell_blk h.row k]
  simp [hk]
theorem Pk.below {W : World} {B b0 g : Nat} {n t : List UInt8} {v : Value} {xs : List (List UInt8)} {bl : List UInt8} {w w' : World} (h : Pk W B b0 g n t v xs bl w) (hb : Below w.heap.size w w') : Pk W B b0 g n t v xs bl w' :=
  ⟨isB_below h.bu hb, h.bx.keep (Md.ofBelow (F := fun _ => False) hb) (fun h => h), (hb.block g (blk_lt h.row)).trans h.row, h.bw.trans (hb.mono h.le), Nat.le_trans h.le hb.size, h.ne, ok_below h.ok hb⟩
theorem Pk.next {W : World} {B b0 g : Nat} {n t : List UInt8} {v : Value} {xs : List (List UInt8)} {bl : List UInt8} {w : World} (h : Pk W B b0 g n t v xs bl w) (hB : B < w.heap.size) (ys : List (List UInt8)) : Pk W B b0 w.heap.size n t v ys bl (w.alloc (.cells (ys.map fun x => Value.string ⟨x.toArray⟩).toArray 9)) := by
  have bA : Below w.heap.size w (w.alloc (.cells (ys.map fun x => Value.string ⟨x.toArray⟩).toArray 9)) := (Below.refl _ _).alloc (Nat.le_refl _) _
  have h' := h.below bA
  exact ⟨h'.bu, h'.bx, heap_alloc_new w _, h'.bw, h'.le, ⟨h.ne.1, by omega⟩, h'.ok⟩
theorem Pk.lt {W : World} {B b0 g : Nat} {n t : List UInt8} {v : Value} {xs : List (List UInt8)} {bl : List UInt8} {w : World} (h : Pk W B b0 g n t v xs bl w) (hB : B < W.heap.size) : B < w.heap.size := Nat.lt_of_lt_of_le hB h.bw.size
theorem flat_take_le (xs : List (List UInt8)) (k : Nat) : (xs.take k).flatten.length ≤ xs.flatten.length := by
  conv => rhs; rw [← List.take_append_drop k xs, List.flatten_append, List.length_append]
  omega
theorem mem_flat_le {xs : List (List UInt8)} {x : List UInt8} (h : x ∈ xs) : x.length ≤ xs.flatten.length := by
  induction xs with
  | nil => cases h
  | cons a r ih =>
    simp only [List.flatten_cons, List.length_append]
    rcases List.mem_cons.1 h with rfl | h
    · omega
    · have := ih h
      omega
/-- What printElement leaves. -/
def PeR (t : Nod) (at' bl : List UInt8) (B : Nat) (W : World) (e : Ending) (w' : World) : Prop :=
  ∃ bl', e = .returned (.bool (decide ((bl ++ elL at' t).length ≤ 65536))) ∧ Lib.IsBuilderF 66 5 B B (Lib.byteCells bl') w' ∧ Below B W w' ∧ Lib.OthersKept 5 (some B) W w' ∧ ((bl ++ elL at' t).length ≤ 65536 → bl' = bl ++ elL at' t)

set_option maxRecDepth 20000 in
set_option maxHeartbeats 3200000 in
theorem pe_step (h : Nat) (t : Nod) (a : Option Addr) (c : Nat) (at' bl : List UInt8) (B : Nat) (W : World) (hb : Lib.IsBuilderF 66 5 B B (Lib.byteCells bl) W) (hB : B < W.heap.size) (hkd : Kd (fun b => b < B) (h + 1) W a t.ks) (hlen : (bl ++ elL at' t).length ≤ 1000000000)
    (HT : ∀ t' ∈ t.ks, ∀ a c bl' W', Lib.IsBuilderF 66 5 B B (Lib.byteCells bl') W' → B < W'.heap.size → Kd (fun b => b < B) h W' a t'.ks → (bl' ++ elL [] t').length ≤ 1000000000 → Calls Tryz.prog 36 #[.pointer (some ⟨B, 0, none⟩), ndV t' a c, .string ⟨#[]⟩] W' (PeR t' [] bl' B W')) :
    Calls Tryz.prog 36 #[.pointer (some ⟨B, 0, none⟩), ndV t a c, .string ⟨at'.toArray⟩] W (PeR t at' bl B W) := by
  have hge := escX_ge t.tx
  have hksl := els_len t.ks
  obtain ⟨xs, hxs⟩ : ∃ xs : List (List UInt8), xs = [[60], t.nm, at', [62], escX t.tx] := ⟨_, rfl⟩
  obtain ⟨ys, hys⟩ : ∃ ys : List (List UInt8), ys = [[60, 47], t.nm, [62]] := ⟨_, rfl⟩
  have hEL : elL at' t = xs.flatten ++ elsL t.ks ++ ys.flatten := by rw [hxs, hys]; exact elL_eq at' t
  obtain ⟨ks, hks⟩ : ∃ ks, ks = t.ks := ⟨_, rfl⟩
  obtain ⟨n, hn⟩ : ∃ n, n = t.nm := ⟨_, rfl⟩
  obtain ⟨x, hx⟩ : ∃ x, x = t.tx := ⟨_, rfl⟩
  have htl : (escX x).length ≤ xs.flatten.length := by
    rw [hx]
    exact mem_flat_le (by rw [hxs]; simp)
  unfold ndV
  rw [← hks] at hkd HT hEL hksl ⊢
  rw [← hn] at hxs hys ⊢
  rw [← hx] at hxs hge ⊢
  have hsum : bl.length + (xs.flatten.length + (elsL ks).length + ys.flatten.length) ≤ 1000000000 := by
    rw [List.length_append, hEL] at hlen
    simpa only [List.length_append] using hlen
  have HE : Hid (elL at' t = xs.flatten ++ elsL ks ++ ys.flatten) := hEL
  have HS : Hid (bl.length + (xs.flatten.length + (elsL ks).length + ys.flatten.length) ≤ 1000000000) := hsum
  have HY : Hid (∀ w : World, w.alloc (.cells #[.string ⟨#[60, 47]⟩, .string ⟨n.toArray⟩, .string ⟨#[62]⟩] 9) = w.alloc (.cells (ys.map fun x => Value.string ⟨x.toArray⟩).toArray 9)) := fun w => by rw [hys]; rfl
  have HXA : Hid (∀ w : World, w.alloc (.cells #[.string ⟨#[60]⟩, .string ⟨n.toArray⟩, .string ⟨at'.toArray⟩, .string ⟨#[62]⟩, .string ⟨(escX x).toArray⟩] 9) = w.alloc (.cells (xs.map fun x => Value.string ⟨x.toArray⟩).toArray 9)) := fun w => by rw [hxs]; rfl
  have hl5 : xs.length = 5 := by rw [hxs]; rfl
  have hl3 : ys.length = 3 := by rw [hys]; rfl
  have H5 : Hid (∀ k, (xs.take k).flatten.length ≤ 1000000000) := fun k => by have := flat_take_le xs k; omega
  have H3 : Hid (∀ k, (ys.take k).flatten.length ≤ 1000000000) := fun k => by have := flat_take_le ys k; omega
  have HX : Hid ((∀ z ∈ xs, z.length ≤ 1000000000) ∧ ∀ z ∈ ys, z.length ≤ 1000000000) := ⟨fun z hz => by have := mem_flat_le hz; omega, fun z hz => by have := mem_flat_le hz; omega⟩
  have hblN : bl.length ≤ 1000000000 := by omega
  have hN : ks.length ≤ 1000000000 := by omega
  have HKD : Hid (Kd (fun b => b < B) (h + 1) W a ks) := hkd
  have HTQ := (show Hid (∀ j (hj : j < ks.length), ∀ a c bl' W', Lib.IsBuilderF 66 5 B B (Lib.byteCells bl') W' → B < W'.heap.size → Kd (fun b => b < B) h W' a (ks[j]).ks → (bl' ++ elL [] (ks[j])).length ≤ 1000000000 → Calls Tryz.prog 36 #[.pointer (some ⟨B, 0, none⟩), ndV (ks[j]) a c, .string ⟨#[]⟩] W' (PeR (ks[j]) [] bl' B W')) from fun j hj => HT _ (List.getElem_mem hj))
  obtain ⟨v, hv⟩ : ∃ v, v = Value.slice a ks.length c := ⟨_, rfl⟩
  obtain ⟨W0, hW0⟩ : ∃ W0, W0 = W.alloc (.cells #[.string ⟨n.toArray⟩, .string ⟨x.toArray⟩, .slice a ks.length c] 24) := ⟨_, rfl⟩
  have hbx0 : Bx W0 W.heap.size n x (.slice a ks.length c) := by rw [hW0]; exact heap_alloc_new W _
  have hbw0 : Below W.heap.size W W0 := by rw [hW0]; exact (Below.refl _ _).alloc (Nat.le_refl _) _
  have hM0 : Md (fun _ => False) W0 W0.drew := (Md.refl _ _).below ((Below.refl _ _).drew)
  have HCE := (show Hid (∀ w', Md (fun _ => False) W0 w' → w'.cell? ⟨W.heap.size, 0, none⟩ = some (.string ⟨n.toArray⟩) ∧ w'.cell? ⟨W.heap.size, 1, none⟩ = some (.string ⟨x.toArray⟩) ∧ Md (fun _ => False) W0 w') from fun w' h => by
    have := Bx.cells (hbx0.keep h (fun h => h))
    exact ⟨this.1.1, this.1.2.1, h⟩)
  have HP := (show Hid (∀ w' (g : Nat) xs, Md (fun _ => False) W0 w' → g = w'.heap.size → Pk W B W.heap.size g n x (.slice a ks.length c) xs bl (w'.alloc (.cells (xs.map fun x => Value.string ⟨x.toArray⟩).toArray 9))) from fun w' g xs h hg => by
    have hsz := h.size
    have hsz0 := hbw0.size
    have m1 : Md (fun _ => False) w' (w'.alloc (.cells (xs.map fun x => Value.string ⟨x.toArray⟩).toArray 9)) := (Md.refl _ _).alloc _
    have bW0 : Below W0.heap.size W0 w' := Md.toBelow (Below.refl _ _) h (fun _ _ h => h) (Nat.le_refl _)
    have bA : Below w'.heap.size w' (w'.alloc (.cells (xs.map fun x => Value.string ⟨x.toArray⟩).toArray 9)) := (Below.refl _ _).alloc (Nat.le_refl _) _
    refine ⟨isB_below (isB_below (isB_below hb hbw0) bW0) bA, (hbx0.keep h (fun h => h)).keep m1 (fun h => h), ?_, ?_, ?_, ?_, ?_⟩
    · rw [hg]; exact heap_alloc_new w' _
    · exact (hbw0.mono (Nat.le_of_lt hB)).trans ((bW0.mono (by omega)).trans (bA.mono (by omega)))
    · have := bA.size; omega
    · omega
    · exact ok_below (ok_below (ok_below (Lib.OthersKept.refl _ _ _) hbw0) bW0) bA)
  have KE := (show Hid (∀ w', Calls Tryz.prog 24 #[.string ⟨x.toArray⟩] w' fun e w2 => e = .returned (.string ⟨(escX x).toArray⟩) ∧ Below w'.heap.size w' w2) from fun w' => escape_any x w' (by omega))
  clear hbx0 hbw0 hxs hys hEL hks hn hx htl hge hksl hsum hlen hkd HT
  go_enter Tryz.func36, Tryz.ntmps36
  go_wp2_with fail
  rw [← hW0]
  clear hW0
  go_region_held3 (fun w' => w'.cell? ⟨W.heap.size, 0, none⟩ = some (.string ⟨n.toArray⟩) ∧ w'.cell? ⟨W.heap.size, 1, none⟩ = some (.string ⟨x.toArray⟩) ∧ Md (fun _ => False) W0 w') (first | ((with_reducible refine HCE.out _ ?_); (with_reducible assumption)) | ((with_reducible refine HCE.out _ (Md.alloc ?_ _)); (with_reducible assumption)))
    (first | (go_at_call 24; (with_reducible refine Calls.mono (KE.out _) ?_); rintro e w1 ⟨rfl, hb1⟩; have hM1 := Md.below hM0 hb1))
  have HP1 : Hid (Pk W B W.heap.size w1.heap.size n x (.slice a ks.length c) xs bl (w1.alloc (.cells #[.string ⟨#[60]⟩, .string ⟨n.toArray⟩, .string ⟨at'.toArray⟩, .string ⟨#[62]⟩, .string ⟨(escX x).toArray⟩] 9))) := by
    rw [HXA.out]
    exact HP.out w1 w1.heap.size xs hM1 rfl
  generalize w1.alloc (.cells #[.string ⟨#[60]⟩, .string ⟨n.toArray⟩, .string ⟨at'.toArray⟩, .string ⟨#[62]⟩, .string ⟨(escX x).toArray⟩] 9) = wa at *
  clear hM1 hb1 HP HCE hM0 KE
  obtain ⟨g, hg⟩ : ∃ g, g = w1.heap.size := ⟨_, rfl⟩
  rw [← hg] at HP1 ⊢
  obtain ⟨b0, hb0⟩ : ∃ b, b = W.heap.size := ⟨_, rfl⟩
  rw [← hb0] at HP1 ⊢
  have HB0 : Hid (B < W.heap.size) := hB
  rw [← hv] at HP1
  have HV : Hid (v = .slice a ks.length c) := hv
  clear hg hb0 hb hB hv
  go_wp2
  go_loopw [21] (fun i wx => ∃ k : Nat, k ≤ 5 ∧ i = .int .i64 k ∧ Pk W B b0 g n x v xs (bl ++ (xs.take k).flatten) wx) (fun i _ => 5 - (intOf i).toNat)
  case atStart => exact ⟨0, by omega, rfl, by simpa using HP1.out⟩
  case round =>
    obtain ⟨k, hk, rfl, hpe⟩ := hrel
    by_cases hk5 : k < 5
    · have hc := hpe.cell k (by omega)
      have hX : (xs[k]'(by omega)).length ≤ 1000000000 := HX.out.1 _ (List.getElem_mem _)
      have HF := (show Hid ((xs.take (k + 1)).flatten = (xs.take k).flatten ++ xs[k]'(by omega)) from flat_succ xs k (by omega))
      generalize xs[k]'(by omega) = z at *
      have h5 := H5.out k
      have K35 := hpe.write ⟨z.toArray⟩ (by rw [mk_size, List.length_append]; omega)
      clear hpe
      go_wp2_with fail
      refine K35.mono ?_
      rintro e w2 ⟨rfl, hp2⟩
      have HP2 : Hid (Pk W B b0 g n x v xs (bl ++ (xs.take (k + 1)).flatten) w2) := by
        show Pk _ _ _ _ _ _ _ _ _ _
        rw [HF.out, ← List.append_assoc]
        exact hp2
      clear hp2 K35
      go_wp2
      go_roundw
      case rel => exact ⟨k + 1, by omega, by go_num, HP2.out⟩
      case measure => simp [intOf]; omega
    · obtain rfl : k = 5 := by omega
      rw [List.take_of_length_le (by omega)] at hpe
      obtain ⟨⟨-, -, c2⟩, -⟩ := Bx.cells hpe.bx
      rw [HV.out] at c2
      obtain ⟨A, hA⟩ : ∃ A, A = bl ++ xs.flatten := ⟨_, rfl⟩
      have hAl : A.length ≤ 1000000000 := by
        have := HS.out
        rw [hA, List.length_append]
        omega
      rw [← hA] at hpe
      have HA : Hid (A = bl ++ xs.flatten) := hA
      have HPE : Hid (Pk W B b0 g n x v xs A wr) := hpe
      have hHS2 : A.length + ((elsL ks).length + ys.flatten.length) ≤ 1000000000 := by
        have := HS.out
        rw [hA, List.length_append]
        omega
      have HS2 : Hid (A.length + ((elsL ks).length + ys.flatten.length) ≤ 1000000000) := hHS2
      clear hpe hA hHS2
      go_wp2
      go_loopw [32] (fun i wx => ∃ k : Nat, k ≤ ks.length ∧ i = .int .i64 k ∧ Pk W B b0 g n x v xs (A ++ elsL (ks.take k)) wx) (fun i _ => ks.length - (intOf i).toNat)
      case atStart => exact ⟨0, Nat.zero_le _, rfl, by rw [List.take_zero, els_nil, List.append_nil]; exact HPE.out⟩
      case round =>
        obtain ⟨k, hkl, rfl, hpe⟩ := hrel
        clear c2 HPE
        by_cases hlt : k < ks.length
        · rcases HKD.out with hnil | ⟨b, off, rfl, hbB, hbW, hcs⟩
          · rw [hnil] at hlt
            exact absurd hlt (by simp)
          obtain ⟨ak, ck, l0, l1, l2, hkd⟩ := hcs k hlt
          have e0 := (hpe.bw.cell (p := ⟨b, off + k * 3, none⟩) hbB).trans l0
          have e1 := (hpe.bw.cell (p := ⟨b, off + k * 3 + 1, none⟩) hbB).trans l1
          have e2 := (hpe.bw.cell (p := ⟨b, off + k * 3 + 2, none⟩) hbB).trans l2
          have htk := els_take hlt
          have htl := els_take_le ks (k + 1)
          have hs2 := HS2.out
          have hBlt := hpe.lt HB0.out
          have hbd : ((A ++ elsL (ks.take k)) ++ elL [] ks[k]).length ≤ 1000000000 := by
            rw [List.append_assoc, ← htk, List.length_append]
            omega
          have hgt : ¬ ((A ++ elsL (ks.take k)) ++ elL [] ks[k]).length ≤ 65536 → ¬ (bl ++ elL at' t).length ≤ 65536 := by
            intro hh h2
            apply hh
            rw [List.append_assoc, ← htk, List.length_append]
            rw [HE.out] at h2
            have hA := HA.out
            have hal : A.length = bl.length + xs.flatten.length := by rw [hA, List.length_append]
            simp only [List.length_append] at h2
            omega
          have KT := HTQ.out k hlt ak ck (A ++ elsL (ks.take k)) (wr.alloc (.cells #[.string ⟨(ks[k]).nm.toArray⟩, .string ⟨(ks[k]).tx.toArray⟩, .slice ak (ks[k]).ks.length ck] 24))
          have HPW : Hid (Pk W B b0 g n x v xs (A ++ elsL (ks.take k)) (wr.alloc (.cells #[.string ⟨(ks[k]).nm.toArray⟩, .string ⟨(ks[k]).tx.toArray⟩, .slice ak (ks[k]).ks.length ck] 24))) := hpe.below ((Below.refl _ _).alloc (Nat.le_refl _) _)
          have hbwa : Below B W (wr.alloc (.cells #[.string ⟨(ks[k]).nm.toArray⟩, .string ⟨(ks[k]).tx.toArray⟩, .slice ak (ks[k]).ks.length ck] 24)) := HPW.out.bw
          have KT2 := KT HPW.out.bu (Nat.lt_of_lt_of_le hBlt ((Below.refl _ _).alloc (Nat.le_refl _) _ : Below wr.heap.size wr _).size) (Kd.keep hbwa.size (fun b hb _ => hbwa.block b hb) hkd) hbd
          have HTK : Hid (A ++ elsL (ks.take (k + 1)) = (A ++ elsL (ks.take k)) ++ elL [] ks[k]) := by
            show _ = _
            rw [htk, List.append_assoc]
          have HG : Hid (¬ ((A ++ elsL (ks.take k)) ++ elL [] ks[k]).length ≤ 65536 → ¬ (bl ++ elL at' t).length ≤ 65536) := hgt
          unfold ndV at KT2
          unfold PeR at KT2
          generalize ks[k] = t' at *
          obtain ⟨D, hD⟩ : ∃ D, D = decide ((A ++ elsL (ks.take k) ++ elL [] t').length ≤ 65536) := ⟨_, rfl⟩
          have HD : Hid (D = decide ((A ++ elsL (ks.take k) ++ elL [] t').length ≤ 65536)) := hD
          rw [← hD] at KT2
          have hkI : (k : Int) < (ks.length : Int) := by omega
          clear hpe hcs l0 l1 l2 hkd htk htl hs2 hbd hgt KT hbwa hD
          go_wp2_with fail
          refine KT2.mono ?_
          rintro e w2 ⟨bl', rfl, hi2, hb2, hok2, heq2⟩
          have hp2 := HPW.out.then hi2 hb2 hok2
          clear KT2 hi2 hb2 hok2 HPW
          cases D with
          | false =>
            have hno : ¬ (A ++ elsL (ks.take k) ++ elL [] t').length ≤ 65536 := of_decide_eq_false HD.out.symm
            have hno2 := HG.out hno
            have HZ : Hid (PeR t at' bl B W (.returned (.bool false)) w2) := ⟨bl', by rw [decide_eq_false hno2], hp2.bu, hp2.bw, hp2.ok, fun h => absurd h hno2⟩
            clear hp2 hno hno2 heq2 e0 e1 e2
            go_wp2
            go_ret
            exact HZ.out
          | true =>
            have hyes : (A ++ elsL (ks.take k) ++ elL [] t').length ≤ 65536 := of_decide_eq_true HD.out.symm
            have HZ : Hid (Pk W B b0 g n x v xs (A ++ elsL (ks.take (k + 1))) w2) := by
              show Pk _ _ _ _ _ _ _ _ _ _
              rw [HTK.out, ← heq2 hyes]
              exact hp2
            clear hp2 hyes heq2 e0 e1 e2
            go_wp2
            go_roundw
            case rel => first | exact ⟨k + 1, by omega, by go_num, HZ.out⟩ | ((repeat apply Exists.intro); exact ⟨⟨k + 1, by omega, by go_num, HZ.out⟩, rfl⟩)
            case measure => simp [intOf]; omega
        · obtain rfl : k = ks.length := by omega
          rw [List.take_length] at hpe
          obtain ⟨⟨c0, -, -⟩, -⟩ := Bx.cells hpe.bx
          have hPN : Pk W B b0 wr.heap.size n x v ys (A ++ elsL ks) (wr.alloc (.cells (ys.map fun x => Value.string ⟨x.toArray⟩).toArray 9)) := hpe.next (hpe.lt HB0.out) ys
          obtain ⟨C, hC⟩ : ∃ C, C = A ++ elsL ks := ⟨_, rfl⟩
          have hCl : C.length ≤ 1000000000 := by
            have := HS2.out
            rw [hC, List.length_append]
            omega
          rw [← hC] at hPN
          have HPN : Hid (Pk W B b0 wr.heap.size n x v ys C (wr.alloc (.cells (ys.map fun x => Value.string ⟨x.toArray⟩).toArray 9))) := hPN
          have HC : Hid (C ++ ys.flatten = bl ++ elL at' t) := by
            show _ = _
            rw [hC, HE.out, HA.out]
            simp only [List.append_assoc]
          obtain ⟨wo, e⟩ : ∃ x, x = wr := ⟨_, rfl⟩
          subst e
          clear hpe hPN hC
          go_wp2
          rw [HY.out]
          generalize wo.alloc (.cells (ys.map fun x => Value.string ⟨x.toArray⟩).toArray 9) = wb at *
          obtain ⟨g2, hg2⟩ : ∃ g, g = wo.heap.size := ⟨_, rfl⟩
          rw [← hg2] at HPN ⊢
          clear hg2 c0
          go_loopw [45] (fun i wx => ∃ k : Nat, k ≤ 3 ∧ i = .int .i64 k ∧ Pk W B b0 g2 n x v ys (C ++ (ys.take k).flatten) wx) (fun i _ => 3 - (intOf i).toNat)
          case atStart => exact ⟨0, by omega, rfl, by simpa using HPN.out⟩
          case round =>
            obtain ⟨k, hk, rfl, hpe⟩ := hrel
            by_cases hk3 : k < 3
            · have hc := hpe.cell k (by omega)
              have hX : (ys[k]'(by omega)).length ≤ 1000000000 := HX.out.2 _ (List.getElem_mem _)
              have HF := (show Hid ((ys.take (k + 1)).flatten = (ys.take k).flatten ++ ys[k]'(by omega)) from flat_succ ys k (by omega))
              generalize ys[k]'(by omega) = z at *
              have h3 := H3.out k
              have K35 := hpe.write ⟨z.toArray⟩ (by rw [mk_size, List.length_append]; omega)
              clear hpe
              go_wp2_with fail
              refine K35.mono ?_
              rintro e w2 ⟨rfl, hp2⟩
              have HP2 : Hid (Pk W B b0 g2 n x v ys (C ++ (ys.take (k + 1)).flatten) w2) := by
                show Pk _ _ _ _ _ _ _ _ _ _
                rw [HF.out, ← List.append_assoc]
                exact hp2
              clear hp2 K35
              go_wp2
              go_roundw
              case rel => first | exact ⟨k + 1, by omega, by go_num, HP2.out⟩ | ((repeat apply Exists.intro); exact ⟨⟨k + 1, by omega, by go_num, HP2.out⟩, rfl⟩)
              case measure => simp [intOf]; omega
            · obtain rfl : k = 3 := by omega
              rw [List.take_of_length_le (by omega)] at hpe
              have KL := Builder_Len_f B B _ wr hpe.bu
              rw [Lib.byteCells_length] at KL
              have HPE : Hid (Pk W B b0 g2 n x v ys (C ++ ys.flatten) wr) := hpe
              have h3 := H3.out 3
              rw [List.take_of_length_le (by omega)] at h3
              have hle : (C ++ ys.flatten).length ≤ 2000000000 := by rw [List.length_append]; omega
              generalize C ++ ys.flatten = R at *
              have HZ : Hid (PeR t at' bl B W (.returned (.bool (decide (R.length ≤ 65536)))) wr) := ⟨R, by rw [← HC.out], HPE.out.bu, HPE.out.bw, HPE.out.ok, fun _ => HC.out⟩
              clear hpe
              go_wp2_with fail
              refine KL.mono ?_
              rintro e w2 ⟨rfl, rfl⟩
              go_wp2
              all_goals
                go_ret
                (first | exact HZ.out | (have hz := HZ.out; refine cast (congrArg (fun b => PeR t at' bl B W (.returned (.bool b)) _) ?_) hz; rw [Bool.eq_iff_iff]; simp; try omega))

def PeQ (h : Nat) : Prop := ∀ (t : Nod) (a : Option Addr) (c : Nat) (at' bl : List UInt8) (B : Nat) (W : World), Lib.IsBuilderF 66 5 B B (Lib.byteCells bl) W → B < W.heap.size → Kd (fun b => b < B) h W a t.ks → (bl ++ elL at' t).length ≤ 1000000000 → Calls Tryz.prog 36 #[.pointer (some ⟨B, 0, none⟩), ndV t a c, .string ⟨at'.toArray⟩] W (PeR t at' bl B W)
theorem peq_all : ∀ h, PeQ h
  | 0 => fun t a c at' bl B W hb hB hk hl => by
    have hks : t.ks = [] := hk
    exact pe_step 0 t a c at' bl B W hb hB (by rw [hks]; exact Kd.nil _ _ _ _) hl (fun t' ht => by rw [hks] at ht; cases ht)
  | h + 1 => fun t a c at' bl B W hb hB hk hl => pe_step h t a c at' bl B W hb hB hk hl (fun t' _ a c bl' W' h1 h2 h3 h4 => peq_all h t' a c [] bl' B W' h1 h2 h3 h4)
end Go.Proofs.YtohkocknpmnakaaGreatDoor
/-
  Places of lists as keys of a map.
-/
namespace Go.Proofs.YtohkocknpmnakaaGreatDoor
open Go.RowKit

/-- A block of cells of which none is frozen. -/
def Cln (w : World) (b : Nat) : Prop := ∃ c t, w.heap[b]? = some (.cells c t (0, 0))
theorem Cln.keep {w w' : World} {b : Nat} (h : Cln w b) (hb : w'.heap[b]? = w.heap[b]?) : Cln w' b := by
  obtain ⟨c, t, h⟩ := h
  exact ⟨c, t, hb.trans h⟩
theorem same_addr (w : World) (a b : Addr) (ha : Cln w a.block) (hb : Cln w b.block) : (sameAddr a b).run Tryz.prog w = .ok (decide (a = b)) w := by
  by_cases h : a = b
  · subst h
    rw [run_sameAddr_same]
    simp
  · obtain ⟨ca, ta, ha⟩ := ha
    obtain ⟨cb, tb, hb⟩ := hb
    rw [run_sameAddr_other w h ha hb]
    simp [h]
theorem part91 (p q : Value) (w : World) : (part 91 #[p, q] 0).run Tryz.prog w = .ok p w := by
  simp [part, isAgg, run_underlying Tryz.underlying91, go_sem]
theorem part3 (p q : Value) (w : World) : (part 3 #[p, q] 1).run Tryz.prog w = .ok q w := by
  simp [part, isAgg, run_underlying Tryz.underlying3, go_sem]
theorem eq91 (w : World) (a b : Addr) (ha : Cln w a.block) (hb : Cln w b.block) : (Op.equalIn 9999 91 (.pointer (some a)) (.pointer (some b))).run Tryz.prog w = .ok (decide (a = b)) w := by
  unfold Op.equalIn
  simp [run_underlying Tryz.underlying91, same_addr w a b ha hb]
theorem eq104 (w : World) (a b : Addr) (n m : Int) (ha : Cln w a.block) (hb : Cln w b.block) : (Op.equal 104 (.agg #[.pointer (some a), .int .i64 n]) (.agg #[.pointer (some b), .int .i64 m])).run Tryz.prog w = .ok (decide (a = b ∧ n = m)) w := by
  have h0 := fun p q w => part91 p q w
  have h1 := fun p q w => part3 p q w
  have e1 := eq91 w a b ha hb
  have e2 : (Op.equalIn 9999 3 (.int .i64 n) (.int .i64 m)).run Tryz.prog w = .ok (n == m) w := run_equalIn_int (P := Tryz.prog) w 9998 3 .i64 .i64 n m Tryz.underlying3
  unfold Op.equal Op.maxDepth Op.equalIn
  by_cases h : a = b
  · subst h
    by_cases h2 : n = m
    · subst h2
      simp [run_underlying Tryz.underlying104, h0, h1, e1, e2, Sem.run_bind]
    · simp [run_underlying Tryz.underlying104, h0, h1, e1, e2, Sem.run_bind, h2]
  · simp [run_underlying Tryz.underlying104, h0, h1, e1, Sem.run_bind, h]
theorem check104 (w : World) (em : Bool) (a : Addr) (n : Int) : (Instr.checkKey em 10000 104 (.agg #[.pointer (some a), .int .i64 n])).run Tryz.prog w = .ok () w := by
  have h0 := fun p q w => part91 p q w
  have h1 := fun p q w => part3 p q w
  have e1 : ∀ v w, (Instr.checkKey em 9999 91 (.pointer v)).run Tryz.prog w = .ok () w := fun v w => by
    unfold Instr.checkKey
    simp [run_underlying Tryz.underlying91]
  have e2 : ∀ k v w, (Instr.checkKey em 9999 3 (.int k v)).run Tryz.prog w = .ok () w := fun k v w => by
    unfold Instr.checkKey
    simp [run_underlying Tryz.underlying3]
  unfold Instr.checkKey
  simp [run_underlying Tryz.underlying104, h0, h1, e1, e2, Sem.run_bind]
/-- Keys of places: what they are. -/
def PKey (w : World) (x : MapEntry) : Prop := ∃ a n, x.key = .agg #[.pointer (some a), .int .i64 n] ∧ x.val = .agg #[] ∧ Cln w a.block
theorem find104 (w : World) (a : Addr) (n : Int) (ha : Cln w a.block) : ∀ (l : List MapEntry) (i : Nat), (∀ x ∈ l, PKey w x) →
    ((Instr.findAsking 104 (.agg #[.pointer (some a), .int .i64 n]) l i).run Tryz.prog w = .ok none w ∧ ∀ x ∈ l, x.key ≠ .agg #[.pointer (some a), .int .i64 n]) ∨ (∃ j, (Instr.findAsking 104 (.agg #[.pointer (some a), .int .i64 n]) l i).run Tryz.prog w = .ok (some (j, .agg #[])) w ∧ ∃ x ∈ l, x.key = .agg #[.pointer (some a), .int .i64 n])
  | [], i, _ => .inl ⟨by simp [Instr.findAsking], by simp⟩
  | x :: l, i, h => by
    obtain ⟨b, m, hk, hv, hb⟩ := h x (by simp)
    have he := eq104 w a b n m ha hb
    by_cases hab : a = b ∧ n = m
    · obtain ⟨rfl, rfl⟩ := hab
      refine .inr ⟨i, ?_, x, by simp, hk⟩
      simp only [Instr.findAsking, hk, Sem.run_bind, he]
      simp [hv]
    · rcases find104 w a n ha l (i + 1) (fun y hy => h y (by simp [hy])) with ⟨h1, h2⟩ | ⟨j, h1, y, hy, h2⟩
      · refine .inl ⟨?_, ?_⟩
        · simp only [Instr.findAsking, hk, Sem.run_bind, he]
          simp [hab, h1]
        · intro y hy
          rcases List.mem_cons.1 hy with rfl | hy
          · rw [hk]
            intro e
            simp only [Value.agg.injEq, Array.mk.injEq, List.cons.injEq, Value.pointer.injEq, Option.some.injEq, Value.int.injEq, true_and, and_true] at e
            exact hab ⟨e.1.symm, e.2.symm⟩
          · exact h2 y hy
      · refine .inr ⟨j, ?_, y, by simp [hy], h2⟩
        simp only [Instr.findAsking, hk, Sem.run_bind, he]
        simp [hab, h1]
theorem findKey104 (w : World) (a : Addr) (n : Int) (l : List MapEntry) : (Instr.findKey 104 (.agg #[.pointer (some a), .int .i64 n]) l).run Tryz.prog w = (Instr.findAsking 104 (.agg #[.pointer (some a), .int .i64 n]) l).run Tryz.prog w :=
  run_findKey_eq (P := Tryz.prog) w (by rw [Tryz.underlying104]) _ _
/-- A place is looked up. -/
theorem look104 (w : World) (mb : Nat) (es : Array MapEntry) (clock : Nat) (a : Addr) (n : Int) (hb : w.heap[mb]? = some (.map es clock)) (hk : ∀ x ∈ es.toList, PKey w x) (ha : Cln w a.block) :
    ((Instr.lookup 122 (.map (some mb)) (.agg #[.pointer (some a), .int .i64 n]) true).run Tryz.prog w = .ok (.tuple #[.agg #[], .bool false]) w ∧ ∀ x ∈ es.toList, x.key ≠ .agg #[.pointer (some a), .int .i64 n]) ∨
    ((Instr.lookup 122 (.map (some mb)) (.agg #[.pointer (some a), .int .i64 n]) true).run Tryz.prog w = .ok (.tuple #[.agg #[], .bool true]) w ∧ ∃ x ∈ es.toList, x.key = .agg #[.pointer (some a), .int .i64 n]) := by
  rcases find104 w a n ha es.toList 0 hk with ⟨h1, h2⟩ | ⟨j, h1, hx⟩
  · refine .inl ⟨?_, h2⟩
    unfold Instr.lookup
    simp [run_underlying Tryz.underlying122, Go.MapKept.run_getObj_map hb, check104, findKey104, h1, Sem.run_bind]
  · refine .inr ⟨?_, hx⟩
    unfold Instr.lookup
    simp [run_underlying Tryz.underlying122, Go.MapKept.run_getObj_map hb, check104, findKey104, h1, Sem.run_bind]
/-- A new place is stored. -/
theorem store104 (w : World) (mb : Nat) (es : Array MapEntry) (clock : Nat) (a : Addr) (n : Int) (hb : w.heap[mb]? = some (.map es clock)) (hk : ∀ x ∈ es.toList, PKey w x) (ha : Cln w a.block) (hn : ∀ x ∈ es.toList, x.key ≠ .agg #[.pointer (some a), .int .i64 n]) :
    (Instr.mapUpdate 122 (.map (some mb)) (.agg #[.pointer (some a), .int .i64 n]) (.agg #[])).run Tryz.prog w = .ok () { w with heap := w.heap.setIfInBounds mb (.map (es.push { key := .agg #[.pointer (some a), .int .i64 n], val := .agg #[], born := clock }) (clock + 1)) } := by
  rcases find104 w a n ha es.toList 0 hk with ⟨h1, -⟩ | ⟨j, -, x, hx, he⟩
  · unfold Instr.mapUpdate
    simp [run_underlying Tryz.underlying122, Go.MapKept.run_getObj_map hb, check104, findKey104, h1, Go.MapKept.run_setObj_map _ hb, Sem.run_bind]
  · exact absurd he (hn x hx)
end Go.Proofs.YtohkocknpmnakaaGreatDoor
/-
  sound and placeOf, of every element.
-/
namespace Go.Proofs.YtohkocknpmnakaaGreatDoor
open Go.RowKit

/-- May an element be written, as far as it is told by itself? -/
def sndB (t : Nod) : Bool := nameB t.nm && ((cntP xmlP t.tx).isSome && (t.tx.isEmpty || t.ks.isEmpty))
theorem mk_empty (t : List UInt8) : (⟨t.toArray⟩ : ByteArray).toList.isEmpty = t.isEmpty := by
  rw [Lib.toList_data]
set_option maxRecDepth 20000 in
set_option maxHeartbeats 1600000 in
theorem sound_any (t : Nod) (a : Option Addr) (c : Nat) (w : World) (hn : t.nm.length ≤ 1000000000) (ht : t.tx.length ≤ 1000000000) (hk : t.ks.length ≤ 1000000000) :
    Calls Tryz.prog 88 #[ndV t a c] w fun e w' => e = .returned (.bool (sndB t)) ∧ Below w.heap.size w w' := by
  have KN := (show Hid (∀ W, Calls Tryz.prog 22 #[.string ⟨t.nm.toArray⟩] W fun e w' => e = .returned (.bool (nameB t.nm)) ∧ Below W.heap.size W w') from fun W => name_code t.nm W (by unfold maxLen; omega))
  have KL := (show Hid (∀ W, Calls Tryz.prog 26 #[.string ⟨t.tx.toArray⟩] W fun e w' => e = .returned (.bool (cntP xmlP t.tx).isSome) ∧ Below W.heap.size W w') from fun W => by
    have := legal_any ⟨t.tx.toArray⟩ W (by rw [mk_size]; unfold maxLen; omega)
    exact this)
  have HS : Hid (sndB t = (nameB t.nm && ((cntP xmlP t.tx).isSome && (t.tx.isEmpty || t.ks.isEmpty)))) := rfl
  have hte := mk_empty t.tx
  have hke : t.ks.isEmpty = decide (t.ks.length = 0) := by cases t.ks <;> simp
  rw [hke] at HS
  unfold ndV
  obtain ⟨w0, hw0⟩ : ∃ w0, w0 = w.alloc (.cells #[.string ⟨t.nm.toArray⟩, .string ⟨t.tx.toArray⟩, .slice a t.ks.length c] 24) := ⟨_, rfl⟩
  have H0 : Hid (Bx w0 w.heap.size t.nm t.tx (.slice a t.ks.length c) ∧ Below w.heap.size w w0) := by
    rw [hw0]
    exact ⟨heap_alloc_new w _, (Below.refl _ _).alloc (Nat.le_refl _) _⟩
  obtain ⟨N, hN⟩ : ∃ N : ByteArray, N = ⟨t.nm.toArray⟩ := ⟨_, rfl⟩
  obtain ⟨T, hT⟩ : ∃ T : ByteArray, T = ⟨t.tx.toArray⟩ := ⟨_, rfl⟩
  have HC := (show Hid (∀ w', Below w0.heap.size w0 w' → w'.cell? ⟨w.heap.size, 0, none⟩ = some (.string N) ∧ w'.cell? ⟨w.heap.size, 1, none⟩ = some (.string T) ∧ w'.cell? ⟨w.heap.size, 2, none⟩ = some (.slice a t.ks.length c)) from fun w' h => by
    have hb := H0.out.1.keep (Md.ofBelow (F := fun _ => False) h) (fun h => h)
    rw [hN, hT]
    exact ⟨cell_blk hb 0, cell_blk hb 1, cell_blk hb 2⟩)
  have HB : Hid (Below w.heap.size w w0) := H0.out.2
  rw [← hT] at hte hw0 KL ⊢
  rw [← hN] at hw0 KN ⊢
  have hkl : t.ks.length ≤ 1000000000 := hk
  generalize t.ks.length = K at *
  generalize t.tx.isEmpty = E at *
  generalize nameB t.nm = B1 at *
  generalize (cntP xmlP t.tx).isSome = B2 at *
  generalize sndB t = R at *
  clear H0 hN hT hke hn ht hk
  go_enter Tryz.func88, Tryz.ntmps88
  go_wp2_with fail
  rw [← hw0]
  clear hw0
  refine (KN.out _).mono ?_
  rintro e w1 ⟨rfl, hb1⟩
  have HB1 : Hid (Below w.heap.size w w1 ∧ Below w0.heap.size w0 w1) := ⟨HB.out.trans (hb1.mono HB.out.size), hb1⟩
  obtain ⟨-, c1, c2⟩ := HC.out w1 hb1
  clear hb1
  cases B1 with
  | false =>
    go_wp2
    go_ret
    exact ⟨by rw [HS.out]; rfl, HB1.out.1⟩
  | true =>
    go_wp2_with fail
    refine (KL.out _).mono ?_
    rintro e w2 ⟨rfl, hb2⟩
    have hb02 := HB1.out.2.trans (hb2.mono HB1.out.2.size)
    have HB2 : Hid (Below w.heap.size w w2) := HB.out.trans (hb02.mono HB.out.size)
    obtain ⟨-, d1, d2⟩ := HC.out w2 hb02
    clear hb2 hb02 c1 c2
    cases B2 with
    | false =>
      go_wp2
      go_ret
      exact ⟨by rw [HS.out]; rfl, HB2.out⟩
    | true =>
      cases E with
      | true =>
        go_wp2
        all_goals
          go_ret
          exact ⟨by rw [HS.out]; rfl, HB2.out⟩
      | false =>
        by_cases hK : K = 0
        · subst hK
          go_wp2
          all_goals
            go_ret
            exact ⟨by rw [HS.out]; rfl, HB2.out⟩
        · have hKb : ((K : Int) == 0) = false := by simpa using hK
          go_wp2
          all_goals
            go_ret
            exact ⟨by rw [HS.out]; simp [hK], HB2.out⟩
theorem size104 : (Tryz.prog.info? 104).map (·.size) = some 2 := by kernel_rfl
set_option maxRecDepth 20000 in
theorem place_any (b off n c : Nat) (w : World) (h0 : 0 < n) (hn : n ≤ 1000000000) :
    Calls Tryz.prog 70 #[.slice (some ⟨b, off, none⟩) n c] w fun e w' => e = .returned (.agg #[.pointer (some ⟨b, off, none⟩), .int .i64 n]) ∧ Below w.heap.size w w' := by
  have hI : (0 : Int) < (n : Int) := by omega
  go_enter Tryz.func70, Tryz.ntmps70
  go_wp2
  refine bodyPost_ret (results_cell_row rfl _ _ w.heap.size 104 #[.pointer (some ⟨b, off, none⟩), .int .i64 n] (0, 0) _ rfl ?_ Tryz.underlying104 rfl size104) rfl ⟨rfl, ?_⟩
  · exact heap_alloc_new w _
  · exact (Below.refl _ _).alloc (Nat.le_refl _) _
end Go.Proofs.YtohkocknpmnakaaGreatDoor
/-
  Levels of elements: the plain mathematics of printable.
-/
namespace Go.Proofs.YtohkocknpmnakaaGreatDoor
open Go.RowKit

/-- How long a level would be if it were printed. -/
def SL (L : List (List Nod)) : Nat := (L.map fun l => (elsL l).length).sum
theorem SL_cons (l : List Nod) (L : List (List Nod)) : SL (l :: L) = (elsL l).length + SL L := by simp [SL]
theorem SL_mem {L : List (List Nod)} {l : List Nod} (h : l ∈ L) : (elsL l).length ≤ SL L := by
  induction L with
  | nil => cases h
  | cons a r ih =>
    rw [SL_cons]
    rcases List.mem_cons.1 h with rfl | h
    · omega
    · have := ih h
      omega
theorem els_mem {l : List Nod} {t : Nod} (h : t ∈ l) : (elL [] t).length ≤ (elsL l).length := by
  induction l with
  | nil => cases h
  | cons a r ih =>
    rw [els_cons, List.length_append]
    rcases List.mem_cons.1 h with rfl | h
    · omega
    · have := ih h
      omega
theorem el_parts (at' : List UInt8) (t : Nod) : t.nm.length ≤ (elL at' t).length ∧ t.tx.length ≤ (elL at' t).length ∧ t.ks.length ≤ (elL at' t).length ∧ (elsL t.ks).length ≤ (elL at' t).length := by
  have h1 := escX_ge t.tx
  have h2 := els_len t.ks
  rw [elL_eq]
  simp only [List.length_append, List.flatten_cons, List.flatten_nil, List.length_cons, List.length_nil]
  omega
theorem SL_node {L : List (List Nod)} {l : List Nod} {t : Nod} {M : Nat} (hM : SL L ≤ M) (hl : l ∈ L) (ht : t ∈ l) : t.nm.length ≤ M ∧ t.tx.length ≤ M ∧ t.ks.length ≤ M := by
  have h1 := SL_mem hl
  have h2 := els_mem ht
  have h3 := el_parts [] t
  omega
theorem SL_list {L : List (List Nod)} {l : List Nod} {M : Nat} (hM : SL L ≤ M) (hl : l ∈ L) : l.length ≤ M := by
  have h1 := SL_mem hl
  have h2 := els_len l
  omega
theorem SL_len {L : List (List Nod)} (hne : ∀ l ∈ L, l ≠ []) : L.length ≤ SL L := by
  induction L with
  | nil => simp
  | cons a r ih =>
    have := ih (fun l hl => hne l (by simp [hl]))
    have h1 := els_len a
    have h2 : 0 < a.length := List.length_pos_iff.2 (hne a (by simp))
    rw [SL_cons, List.length_cons]
    omega
theorem SL_sub {L K : List (List Nod)} (h : L.Sublist K) : SL L ≤ SL K := by
  induction h with
  | slnil => exact Nat.le_refl _
  | cons a _ ih => rw [SL_cons]; omega
  | cons_cons a _ ih => rw [SL_cons, SL_cons]; omega
theorem SL_app (L K : List (List Nod)) : SL (L ++ K) = SL L + SL K := by simp [SL]
theorem SL_kids_one (l : List Nod) : SL (l.map Nod.ks) ≤ (elsL l).length := by
  induction l with
  | nil => simp [SL]
  | cons t r ih =>
    have := (el_parts [] t).2.2.2
    rw [List.map_cons, SL_cons, els_cons, List.length_append]
    omega
theorem SL_kids (L : List (List Nod)) : SL (L.flatten.map Nod.ks) ≤ SL L := by
  induction L with
  | nil => simp [SL]
  | cons l r ih =>
    have := SL_kids_one l
    rw [List.flatten_cons, List.map_append, SL_app, SL_cons]
    omega
theorem flat_len_SL (L : List (List Nod)) : L.flatten.length ≤ SL L := by
  induction L with
  | nil => simp
  | cons l r ih =>
    have := els_len l
    rw [List.flatten_cons, List.length_append, SL_cons]
    omega
/-- May elements be written, which may lie so deep? -/
def okK : Nat → List Nod → Bool
  | 0, ks => ks.isEmpty
  | d + 1, ks => ks.all fun t => sndB t && okK d t.ks
theorem okK_nil (d : Nat) : okK d [] = true := by
  cases d <;> rfl
def okL (d : Nat) (L : List (List Nod)) : Bool := L.all (okK d)
theorem okL_flat (d : Nat) (L : List (List Nod)) : okL (d + 1) L = L.flatten.all fun t => sndB t && okK d t.ks := by
  unfold okL
  rw [List.all_flatten]
  rfl
/-- From a level to the next. -/
theorem okL_next (d : Nat) {L L' : List (List Nod)} (hs : ∀ t ∈ L.flatten, sndB t = true) (hc : ∀ t ∈ L.flatten, t.ks = [] ∨ t.ks ∈ L') (hsub : L'.Sublist (L.flatten.map Nod.ks)) : okL (d + 1) L = okL d L' := by
  rw [okL_flat, Bool.eq_iff_iff]
  unfold okL
  simp only [List.all_eq_true, Bool.and_eq_true]
  constructor
  · intro h l hl
    obtain ⟨t, ht, rfl⟩ := List.mem_map.1 (hsub.mem hl)
    exact (h t ht).2
  · intro h t ht
    refine ⟨hs t ht, ?_⟩
    rcases hc t ht with h0 | h0
    · rw [h0]; exact okK_nil d
    · exact h _ h0
theorem okL_bad (d : Nat) {L : List (List Nod)} (h : ∃ t ∈ L.flatten, sndB t = false) : okL (d + 1) L = false := by
  rw [okL_flat, Bool.eq_false_iff]
  intro hh
  obtain ⟨t, ht, hb⟩ := h
  have := List.all_eq_true.1 hh t ht
  rw [hb] at this
  cases this
theorem okL_zero {L : List (List Nod)} (hne : ∀ l ∈ L, l ≠ []) (h : L ≠ []) : okL 0 L = false := by
  cases L with
  | nil => exact absurd rfl h
  | cons l r =>
    have := hne l (by simp)
    cases l with
    | nil => exact absurd rfl this
    | cons a b => rfl
/-- Elements in memory, in blocks that are not frozen. -/
def Inc (h : Nat) (w : World) (a : Option Addr) (ks : List Nod) : Prop := Kd (Cln w) h w a ks
theorem Inc.below {h : Nat} {w w' : World} {a : Option Addr} {ks : List Nod} (hi : Inc h w a ks) (hb : Below w.heap.size w w') : Inc h w' a ks := by
  have h1 : Kd (Cln w) h w' a ks := Kd.keep hb.size (fun b _ hlt => hb.block b hlt) hi
  have h2 : Kd (fun b => b < w.heap.size ∧ Cln w b) h w a ks := Kd.mono (fun b hg hlt => ⟨hlt, hg⟩) hi
  have h3 : Kd (fun b => b < w.heap.size ∧ Cln w b) h w' a ks := Kd.keep hb.size (fun b hg _ => hb.block b hg.1) h2
  exact h3.mono (fun b hg _ => hg.2.keep (hb.block b hg.1))
theorem kd_fun {G G' : Nat → Prop} {w : World} : ∀ {h : Nat} {a : Option Addr} {ks ks' : List Nod}, Kd G h w a ks → Kd G' h w a ks' → ks.length = ks'.length → ks = ks'
  | 0, _, _, _, h1, h2, _ => by
    have e1 : _ = [] := h1
    have e2 : _ = [] := h2
    rw [e1, e2]
  | h + 1, a, ks, ks', h1, h2, hl => by
    rcases h1 with h1 | ⟨b, off, rfl, -, -, h1⟩
    · rw [h1] at hl
      rw [h1, List.eq_nil_of_length_eq_zero hl.symm]
    · rcases h2 with h2 | ⟨b', off', hab, -, -, h2⟩
      · rw [h2] at hl
        rw [h2, List.eq_nil_of_length_eq_zero hl]
      · simp only [Option.some.injEq, Addr.mk.injEq, and_true] at hab
        obtain ⟨rfl, rfl⟩ := hab
        apply List.ext_getElem hl
        intro j hj hj'
        obtain ⟨a1, c1, p1, p2, p3, p4⟩ := h1 j hj
        obtain ⟨a2, c2, q1, q2, q3, q4⟩ := h2 j hj'
        rw [p1] at q1
        rw [p2] at q2
        rw [p3] at q3
        simp only [Option.some.injEq, Value.string.injEq, Value.slice.injEq, ByteArray.mk.injEq] at q1 q2 q3
        obtain ⟨rfl, hl2, -⟩ := q3
        have hk := kd_fun p4 q4 hl2
        have e1 : ks[j].nm = ks'[j].nm := by simpa using q1
        have e2 : ks[j].tx = ks'[j].tx := by simpa using q2
        revert e1 e2 hk
        cases ks[j]
        cases ks'[j]
        simp only [Nod.nm, Nod.tx, Nod.ks]
        rintro rfl rfl rfl
        rfl
theorem Inc.head {h : Nat} {w : World} {a : Option Addr} {ks : List Nod} (hi : Inc (h + 1) w a ks) (hne : ks ≠ []) : ∃ b off, a = some ⟨b, off, none⟩ ∧ Cln w b ∧ b < w.heap.size := by
  rcases hi with hi | ⟨b, off, rfl, hc, hb, -⟩
  · exact absurd hi hne
  · exact ⟨b, off, rfl, hc, hb⟩
end Go.Proofs.YtohkocknpmnakaaGreatDoor
/-
  below: the state of its loops.
-/
namespace Go.Proofs.YtohkocknpmnakaaGreatDoor
open Go.RowKit

/-- A level in memory. -/
def Lv (h : Nat) (w : World) (v : Value) (L : List (List Nod)) : Prop :=
  ∃ a c, v = .slice a L.length c ∧ (L = [] ∨ ∃ g off, a = some ⟨g, off, none⟩ ∧ g < w.heap.size ∧ ∀ j (hj : j < L.length), ∃ b o cj, w.cell? ⟨g, off + j, none⟩ = some (.slice (some ⟨b, o, none⟩) (L[j]).length cj) ∧ Inc h w (some ⟨b, o, none⟩) L[j])
def lcs : List (List Nod) → List (Nat × Nat × Nat) → List Value
  | l :: L, h :: hs => .slice (some ⟨h.1, h.2.1, none⟩) l.length h.2.2 :: lcs L hs
  | _, _ => []
theorem lcs_app : ∀ (L : List (List Nod)) (hs : List (Nat × Nat × Nat)) (l : List Nod) (x : Nat × Nat × Nat), hs.length = L.length → lcs (L ++ [l]) (hs ++ [x]) = lcs L hs ++ [.slice (some ⟨x.1, x.2.1, none⟩) l.length x.2.2]
  | [], [], l, x, _ => rfl
  | [], y :: hs, l, x, h => by simp at h
  | s :: ts, [], l, x, h => by simp at h
  | s :: ts, y :: hs, l, x, h => by
    simp only [List.cons_append, lcs]
    rw [lcs_app ts hs l x (by simpa using h)]
theorem lcs_get : ∀ (L : List (List Nod)) (hs : List (Nat × Nat × Nat)) (j : Nat) (hj : j < L.length) (hj' : j < hs.length), (lcs L hs)[j]? = some (.slice (some ⟨(hs[j]).1, (hs[j]).2.1, none⟩) (L[j]).length (hs[j]).2.2)
  | [], _, j, hj, _ => by simp at hj
  | _ :: _, [], j, _, hj => by simp at hj
  | l :: L, h :: hs, 0, _, _ => rfl
  | l :: L, h :: hs, j + 1, hj, hj' => by
    simp only [lcs, List.getElem?_cons_succ, List.getElem_cons_succ]
    exact lcs_get L hs j (by simpa using hj) (by simpa using hj')
def pkV (b off n : Nat) : Value := .agg #[.pointer (some ⟨b, off, none⟩), .int .i64 (n : Int)]
/-- Within below's loops: the lists found so far, and the map of their places (perhaps with one place more). -/
structure BJ (h : Nat) (W w : World) (mb : Nat) (v : Value) (D : List Nod) (L' : List (List Nod)) (hs : List (Nat × Nat × Nat)) (xk : Value → Prop) : Prop where
  lo : Below W.heap.size W w
  hl : hs.length = L'.length
  row : w.ownsRow (W.heap.size + 1) 22 1 v L'.length (lcs L' hs)
  inc : ∀ j (hj : j < L'.length) (hj' : j < hs.length), Inc h W (some ⟨(hs[j]).1, (hs[j]).2.1, none⟩) L'[j]
  mp : ∃ es clock, w.heap[mb]? = some (.map es clock) ∧ ∀ x ∈ es.toList, x.val = .agg #[] ∧ ((∃ j, ∃ (hj : j < L'.length) (hj' : j < hs.length), x.key = pkV (hs[j]).1 (hs[j]).2.1 (L'[j]).length) ∨ xk x.key)
  mb : mb = W.heap.size
  sz : W.heap.size + 1 ≤ w.heap.size
  sn : ∀ t ∈ D, sndB t = true
  cm : ∀ t ∈ D, t.ks = [] ∨ t.ks ∈ L'
  sub : L'.Sublist (D.map Nod.ks)
  ne : ∀ l ∈ L', l ≠ []
def BI (h : Nat) (W w : World) (mb : Nat) (v : Value) (D : List Nod) (L' : List (List Nod)) : Prop := ∃ hs, BJ h W w mb v D L' hs (fun _ => False)
theorem BI.start (h : Nat) (W : World) : BI h W (W.alloc (.map #[] 0)) W.heap.size (.slice none 0 0) [] [] := by
  refine ⟨[], (Below.refl _ _).alloc (Nat.le_refl _) _, rfl, World.ownsRow_nil _ _ _ _, fun j hj => by simp at hj, ⟨#[], 0, heap_alloc_new _ _, by simp⟩, rfl, ?_, by simp, by simp, by simp, by simp⟩
  show _ ≤ (W.heap.push _).size
  simp
theorem BJ.below {h : Nat} {W w w' : World} {mb : Nat} {v : Value} {D : List Nod} {L' : List (List Nod)} {hs : List (Nat × Nat × Nat)} {xk : Value → Prop} (b : BJ h W w mb v D L' hs xk) (hb : Below w.heap.size w w') : BJ h W w' mb v D L' hs xk := by
  obtain ⟨es, clock, hm, hk⟩ := b.mp
  exact ⟨b.lo.trans (hb.mono b.lo.size), b.hl, own_md b.row (Md.ofBelow (F := fun _ => False) hb) (fun j hj e => e), b.inc, ⟨es, clock, (hb.block mb (blk_lt hm)).trans hm, hk⟩, b.mb, Nat.le_trans b.sz hb.size, b.sn, b.cm, b.sub, b.ne⟩
theorem BI.below {h : Nat} {W w w' : World} {mb : Nat} {v : Value} {D : List Nod} {L' : List (List Nod)} (b : BI h W w mb v D L') (hb : Below w.heap.size w w') : BI h W w' mb v D L' := by
  obtain ⟨hs, b⟩ := b
  exact ⟨hs, b.below hb⟩
/-- One element more, whose list is empty or there. -/
theorem BI.skip {h : Nat} {W w : World} {mb : Nat} {v : Value} {D : List Nod} {L' : List (List Nod)} (b : BI h W w mb v D L') (t : Nod) (hs : sndB t = true) (hk : t.ks = [] ∨ t.ks ∈ L') : BI h W w mb v (D ++ [t]) L' := by
  obtain ⟨hs', b⟩ := b
  refine ⟨hs', b.lo, b.hl, b.row, b.inc, b.mp, b.mb, b.sz, ?_, ?_, ?_, b.ne⟩
  · intro t' ht
    rcases List.mem_append.1 ht with ht | ht
    · exact b.sn t' ht
    · rw [List.mem_singleton.1 ht]; exact hs
  · intro t' ht
    rcases List.mem_append.1 ht with ht | ht
    · exact b.cm t' ht
    · rw [List.mem_singleton.1 ht]; exact hk
  · rw [List.map_append]
    exact b.sub.trans (List.sublist_append_left _ _)
theorem BJ.cln {h : Nat} {W w : World} {mb : Nat} {v : Value} {D : List Nod} {L' : List (List Nod)} {hs : List (Nat × Nat × Nat)} {xk : Value → Prop} (b : BJ h W w mb v D L' hs xk) {j : Nat} (hj : j < L'.length) (hj' : j < hs.length) : Cln w (hs[j]).1 := by
  have hi := b.inc j hj hj'
  have hne := b.ne _ (List.getElem_mem hj)
  cases h with
  | zero => exact absurd (show L'[j] = [] from hi) hne
  | succ h =>
    obtain ⟨b1, o1, e, hc, hlt⟩ := hi.head hne
    simp only [Option.some.injEq, Addr.mk.injEq] at e
    rw [e.1]
    exact hc.keep (b.lo.block _ hlt)
theorem pkV_inj {b o n b' o' n' : Nat} (h : pkV b o n = pkV b' o' n') : b = b' ∧ o = o' ∧ n = n' := by
  simp only [pkV, Value.agg.injEq, Array.mk.injEq, List.cons.injEq, Value.pointer.injEq, Option.some.injEq, Addr.mk.injEq, Value.int.injEq, true_and, and_true] at h
  exact ⟨h.1.1, h.1.2, by omega⟩
/-- What the map tells of a list. -/
theorem BI.look {h : Nat} {W w : World} {mb : Nat} {v : Value} {D : List Nod} {L' : List (List Nod)} (bi : BI h W w mb v D L') (t : Nod) (hsn : sndB t = true) (hne : t.ks ≠ []) {b off : Nat} (hi : Inc h W (some ⟨b, off, none⟩) t.ks) :
    ((Instr.lookup 122 (.map (some mb)) (.agg #[.pointer (some ⟨b, off, none⟩), .int .i64 (t.ks.length : Int)]) true).run Tryz.prog w = .ok (.tuple #[.agg #[], .bool true]) w ∧ BI h W w mb v (D ++ [t]) L') ∨
    ((Instr.lookup 122 (.map (some mb)) (.agg #[.pointer (some ⟨b, off, none⟩), .int .i64 (t.ks.length : Int)]) true).run Tryz.prog w = .ok (.tuple #[.agg #[], .bool false]) w ∧
      ∀ w', Below w.heap.size w w' → ∃ w2, (Instr.mapUpdate 122 (.map (some mb)) (.agg #[.pointer (some ⟨b, off, none⟩), .int .i64 (t.ks.length : Int)]) (.agg #[])).run Tryz.prog w' = .ok () w2 ∧ w2.heap.size = w'.heap.size ∧ (∀ k, k ≠ mb → w2.heap[k]? = w'.heap[k]?) ∧ ∃ hs, BJ h W w2 mb v D L' hs (fun x => x = pkV b off t.ks.length)) := by
  obtain ⟨hs, bj⟩ := bi
  obtain ⟨es, clock, hm, hk⟩ := bj.mp
  have hcl : Cln W b ∧ b < W.heap.size := by
    cases h with
    | zero => exact absurd (show t.ks = [] from hi) hne
    | succ h =>
      obtain ⟨b1, o1, e, hc, hlt⟩ := hi.head hne
      simp only [Option.some.injEq, Addr.mk.injEq] at e
      rw [e.1]
      exact ⟨hc, hlt⟩
  have hcw : Cln w b := hcl.1.keep (bj.lo.block _ hcl.2)
  have hpk : ∀ x ∈ es.toList, PKey w x := by
    intro x hx
    obtain ⟨h1, h2 | h2⟩ := hk x hx
    · obtain ⟨j, hj, hj', he⟩ := h2
      exact ⟨_, _, he, h1, bj.cln hj hj'⟩
    · exact h2.elim
  rcases look104 w mb es clock ⟨b, off, none⟩ (t.ks.length : Int) hm hpk hcw with ⟨h1, h2⟩ | ⟨h1, x, hx, he⟩
  · refine .inr ⟨h1, fun w' hb => ?_⟩
    have bj' := bj.below hb
    have hm' := (hb.block mb (blk_lt hm)).trans hm
    have hst := store104 w' mb es clock ⟨b, off, none⟩ (t.ks.length : Int) hm' (fun x hx => by
      obtain ⟨a, n, e1, e2, e3⟩ := hpk x hx
      exact ⟨a, n, e1, e2, e3.keep (hb.block _ (by obtain ⟨c, tt, hc⟩ := e3; exact blk_lt hc))⟩) (hcw.keep (hb.block _ (by obtain ⟨c, tt, hc⟩ := hcw; exact blk_lt hc))) h2
    have hset := Go.MapKept.heap_set (o' := Obj.map (es.push { key := .agg #[.pointer (some ⟨b, off, none⟩), .int .i64 (t.ks.length : Int)], val := .agg #[], born := clock }) (clock + 1)) hm'
    obtain ⟨w2, hw2⟩ : ∃ w2, w2 = { w' with heap := w'.heap.setIfInBounds mb (.map (es.push { key := .agg #[.pointer (some ⟨b, off, none⟩), .int .i64 (t.ks.length : Int)], val := .agg #[], born := clock }) (clock + 1)) } := ⟨_, rfl⟩
    rw [← hw2] at hst
    have hsz : w2.heap.size = w'.heap.size := by rw [hw2]; simp
    have hoth : ∀ k, k ≠ mb → w2.heap[k]? = w'.heap[k]? := by rw [hw2]; exact hset.2
    refine ⟨w2, hst, hsz, hoth, hs, ?_⟩
    have hmd : Md (fun k => k = mb) w' w2 := ⟨by rw [hw2], by rw [hw2], by rw [hw2], by omega, fun k _ hk => hoth k hk⟩
    have hmb := bj'.mb
    refine ⟨?_, bj'.hl, ?_, bj'.inc, ?_, hmb, by have := bj'.sz; omega, bj'.sn, bj'.cm, bj'.sub, bj'.ne⟩
    · exact Md.toBelow bj'.lo hmd (fun k hk e => by omega) (Nat.le_refl _)
    · exact own_md bj'.row hmd (fun j hj e => by have := (bj'.row.lt j hj).1; omega)
    · refine ⟨_, _, by rw [hw2]; exact hset.1, fun x hx => ?_⟩
      rw [Array.toList_push] at hx
      rcases List.mem_append.1 hx with hx | hx
      · obtain ⟨e1, e2 | e2⟩ := hk x hx
        · exact ⟨e1, .inl e2⟩
        · exact e2.elim
      · rw [List.mem_singleton.1 hx]
        exact ⟨rfl, .inr rfl⟩
  · refine .inl ⟨h1, BI.skip ⟨hs, bj⟩ t hsn (.inr ?_)⟩
    obtain ⟨-, e2 | e2⟩ := hk x hx
    · obtain ⟨j, hj, hj', e2⟩ := e2
      have e3 : pkV (hs[j]).1 (hs[j]).2.1 (L'[j]).length = pkV b off t.ks.length := e2.symm.trans he
      obtain ⟨rfl, rfl, e4⟩ := pkV_inj e3
      have := kd_fun (bj.inc j hj hj') hi e4
      rw [← this]
      exact List.getElem_mem hj
    · exact e2.elim
/-- The list is put behind the others. -/
theorem BJ.grow {h : Nat} {W w w' : World} {mb : Nat} {v v' : Value} {D : List Nod} {L' : List (List Nod)} {hs : List (Nat × Nat × Nat)} {b off c : Nat} {t : Nod} (bj : BJ h W w mb v D L' hs (fun x => x = pkV b off t.ks.length)) (hsn : sndB t = true) (hne : t.ks ≠ []) (hi : Inc h W (some ⟨b, off, none⟩) t.ks)
    (hg : w.grownBy w' v.ownBlock) (ho : w'.ownsRow (W.heap.size + 1) 22 1 v' (L'.length + 1) (lcs L' hs ++ [.slice (some ⟨b, off, none⟩) t.ks.length c])) : BI h W w' mb v' (D ++ [t]) (L' ++ [t.ks]) := by
  have hl := bj.hl
  have hmb := bj.mb
  have hmd := Md.ofGrown hg
  have hrow : ∀ j, v.ownBlock = some j → W.heap.size + 1 ≤ j := fun j hj => (bj.row.lt j hj).1
  refine ⟨hs ++ [(b, off, c)], ?_, by simp [hl], ?_, ?_, ?_, hmb, by have := bj.sz; have := hmd.size; omega, ?_, ?_, ?_, ?_⟩
  · exact bj.lo.grown hg (by have := bj.sz; omega) (fun k e => by have := hrow k e; omega)
  · rw [lcs_app _ _ _ _ hl, List.length_append]
    exact ho
  · intro j hj hj'
    simp only [List.length_append, List.length_cons, List.length_nil] at hj
    by_cases hj2 : j < L'.length
    · simp only [List.getElem_append_left hj2, List.getElem_append_left (show j < hs.length by omega)]
      exact bj.inc j hj2 (by omega)
    · obtain rfl : j = L'.length := by omega
      have e1 : (L' ++ [t.ks])[L'.length]'(by simp) = t.ks := by simp
      have e2 : (hs ++ [(b, off, c)])[L'.length]'(by simp [hl]) = (b, off, c) := by simp [← hl]
      rw [e1, e2]
      exact hi
  · obtain ⟨es, clock, hm, hk⟩ := bj.mp
    refine ⟨es, clock, keep_blk hm hmd (fun e => by have := hrow _ e; omega), fun x hx => ?_⟩
    obtain ⟨h1, h2⟩ := hk x hx
    refine ⟨h1, .inl ?_⟩
    rcases h2 with ⟨j, hj, hj', he⟩ | he
    · refine ⟨j, by simp; omega, by simp; omega, ?_⟩
      rw [List.getElem_append_left hj, List.getElem_append_left hj']
      exact he
    · refine ⟨L'.length, by simp, by simp [hl], ?_⟩
      have e1 : (L' ++ [t.ks])[L'.length]'(by simp) = t.ks := by simp
      have e2 : (hs ++ [(b, off, c)])[L'.length]'(by simp [hl]) = (b, off, c) := by simp [← hl]
      rw [e1, e2]
      exact he
  · intro t' ht
    rcases List.mem_append.1 ht with ht | ht
    · exact bj.sn t' ht
    · rw [List.mem_singleton.1 ht]; exact hsn
  · intro t' ht
    rcases List.mem_append.1 ht with ht | ht
    · rcases bj.cm t' ht with h0 | h0
      · exact .inl h0
      · exact .inr (by simp [h0])
    · rw [List.mem_singleton.1 ht]; exact .inr (by simp)
  · rw [List.map_append]
    exact List.Sublist.append bj.sub (List.Sublist.refl _)
  · intro l hl
    rcases List.mem_append.1 hl with hl | hl
    · exact bj.ne l hl
    · rw [List.mem_singleton.1 hl]; exact hne
/-- At the loops' end: the level below. -/
theorem BI.lv {h : Nat} {W w : World} {mb : Nat} {v : Value} {D : List Nod} {L' : List (List Nod)} (bi : BI h W w mb v D L') : Lv h w v L' := by
  obtain ⟨hs, bj⟩ := bi
  have h0 := bj.row
  obtain ⟨hx, ⟨h1, h2⟩ | ⟨g, cap, cur, h1, h2, h3, h4, h5, h6, h7⟩⟩ := h0
  · refine ⟨none, 0, ?_, .inl (List.eq_nil_of_length_eq_zero h2)⟩
    rw [h1, h2]
  · refine ⟨_, _, h1, .inr ⟨g, 0, rfl, blk_lt h3, fun j hj => ?_⟩⟩
    have hj' : j < hs.length := by rw [bj.hl]; exact hj
    have hc := bj.row
    rw [h1] at hc
    have hcell := hc.cellAt j (by omega)
    rw [lcs_get L' hs j hj hj'] at hcell
    refine ⟨(hs[j]).1, (hs[j]).2.1, (hs[j]).2.2, ?_, ?_⟩
    · rw [Nat.zero_add]; exact hcell
    · have hi := bj.inc j hj hj'
      have h2 : Kd (fun b => b < W.heap.size ∧ Cln W b) h W (some ⟨(hs[j]).1, (hs[j]).2.1, none⟩) L'[j] := Kd.mono (fun b hg hlt => ⟨hlt, hg⟩) hi
      have h3 := Kd.keep (w' := w) bj.lo.size (fun b hg _ => bj.lo.block b hg.1) h2
      exact h3.mono (fun b hg _ => hg.2.keep (bj.lo.block b hg.1))
end Go.Proofs.YtohkocknpmnakaaGreatDoor
/-
  below, of every level.
-/
namespace Go.Proofs.YtohkocknpmnakaaGreatDoor
open Go.RowKit

/-- What below tells of a level. -/
def BeR (h : Nat) (L : List (List Nod)) (W : World) (e : Ending) (w' : World) : Prop :=
  Below W.heap.size W w' ∧ ((e = .returned (.tuple #[.slice none 0 0, .bool false]) ∧ ∃ t ∈ L.flatten, sndB t = false) ∨
    ∃ v' L', e = .returned (.tuple #[v', .bool true]) ∧ Lv h w' v' L' ∧ (∀ t ∈ L.flatten, sndB t = true) ∧ (∀ t ∈ L.flatten, t.ks = [] ∨ t.ks ∈ L') ∧ L'.Sublist (L.flatten.map Nod.ks) ∧ ∀ l ∈ L', l ≠ [])
theorem info22 : (Tryz.prog.info? 22).map (fun i => (i.zero, i.size, i.bytes)) = some (some (.slice none 0 0), 1, 24) := by kernel_rfl
theorem flat_done {L : List (List Nod)} {k : Nat} (h : k < L.length) : (L.take k).flatten ++ (L[k]).take (L[k]).length = (L.take (k + 1)).flatten := by
  rw [List.take_length, List.take_succ_eq_append_getElem h, List.flatten_append]
  simp

theorem Inc.some {h : Nat} {w : World} {a : Option Addr} {ks : List Nod} (hi : Inc h w a ks) (hne : ks ≠ []) : ∃ b off, a = .some ⟨b, off, none⟩ := by
  cases h with
  | zero => exact absurd hi hne
  | succ h =>
    obtain ⟨b, o, e, -, -⟩ := hi.head hne
    exact ⟨b, o, e⟩
theorem one_slice (a : Option Addr) (n c : Nat) : ∀ u ∈ [Value.slice a n c], u.oneCell' = true := by
  intro u hu
  rw [List.mem_singleton.1 hu]
  rfl
theorem cell_one_at (w : World) (x : Value) (t : TypeId) : ∀ j u, [x][j]? = some u → (w.alloc (.cells #[x] t)).cell? ((⟨w.heap.size, 0, none⟩ : Addr).add j) = some u := by
  intro j u hj
  rw [Addr.add_lit, World.cell?_alloc_mark]
  simpa using hj

set_option maxRecDepth 20000 in
set_option maxHeartbeats 3200000 in
theorem below_any (h : Nat) (v : Value) (L : List (List Nod)) (W : World) (hL : Lv (h + 1) W v L) (hne : ∀ l ∈ L, l ≠ []) (hS : SL L ≤ 1000000000) :
    Calls Tryz.prog 67 #[v] W (BeR h L W) := by
  obtain ⟨i0, hii, hz0, hz1, hz2⟩ := info_parts info22
  obtain ⟨a, c, rfl, hL⟩ := hL
  have HL : Hid (L = [] ∨ ∃ g off, a = some ⟨g, off, none⟩ ∧ g < W.heap.size ∧ ∀ j (hj : j < L.length), ∃ b o cj, W.cell? ⟨g, off + j, none⟩ = some (.slice (some ⟨b, o, none⟩) (L[j]).length cj) ∧ Inc (h + 1) W (some ⟨b, o, none⟩) L[j]) := hL
  have HS : Hid (SL L ≤ 1000000000) := hS
  have hLl : L.length ≤ 1000000000 := Nat.le_trans (SL_len hne) hS
  have KS := (show Hid (∀ (l : List Nod) (t : Nod), l ∈ L → t ∈ l → ∀ a c w, Calls Tryz.prog 88 #[ndV t a c] w fun e w' => e = .returned (.bool (sndB t)) ∧ Below w.heap.size w w') from fun l t hl ht a c w => by
    have := SL_node hS hl ht
    exact sound_any t a c w this.1 this.2.1 this.2.2)
  clear hL hne hS
  go_enter Tryz.func67, Tryz.ntmps67
  have hmk := run_makeMap (P := Tryz.prog) 122 W
  obtain ⟨wm, hwm⟩ : ∃ wm, wm = W.alloc (.map #[] 0) := ⟨_, rfl⟩
  obtain ⟨mb, hmb⟩ : ∃ mb, mb = W.heap.size := ⟨_, rfl⟩
  have HM : Hid (BI h W wm mb (.slice none 0 0) [] []) := by rw [hwm, hmb]; exact BI.start h W
  rw [← hwm, ← hmb] at hmk
  clear hwm hmb
  go_wp2
  go_loopw [4, 16] (fun u i wx => ∃ (k : Nat) (L' : List (List Nod)) (v : Value), k ≤ L.length ∧ i = .int .i64 k ∧ v = u ∧ BI h W wx mb v (L.take k).flatten L') (fun _ i _ => L.length - (intOf i).toNat)
  case atStart => exact ⟨0, [], _, Nat.zero_le _, rfl, rfl, HM.out⟩
  case round =>
    obtain ⟨k, L', v, hkl, rfl, rfl, hbi⟩ := hrel
    by_cases hlt : k < L.length
    · rcases HL.out with hnil | ⟨g, off, rfl, hgW, hcs⟩
      · rw [hnil] at hlt
        exact absurd hlt (by simp)
      obtain ⟨b, o, cj, hc, hinc⟩ := hcs k hlt
      have hcW := (hbi.choose_spec.lo.cell (p := ⟨g, off + k, none⟩) hgW).trans hc
      have hlen := SL_list HS.out (List.getElem_mem hlt)
      have HKT := (show Hid (∀ t ∈ L[k], ∀ a c w, Calls Tryz.prog 88 #[ndV t a c] w fun e w' => e = .returned (.bool (sndB t)) ∧ Below w.heap.size w w') from fun t ht => KS.out _ t (List.getElem_mem hlt) ht)
      have HFD := (show Hid ((L.take k).flatten ++ (L[k]).take (L[k]).length = (L.take (k + 1)).flatten) from flat_done hlt)
      have HIN : Hid (Inc (h + 1) W (some ⟨b, o, none⟩) L[k]) := hinc
      have HMEM := (show Hid (∀ t ∈ L[k], t ∈ L.flatten) from fun t ht => List.mem_flatten.2 ⟨_, List.getElem_mem hlt, ht⟩)
      have HBI : Hid (BI h W wr mb v (L.take k).flatten L') := hbi
      have hkbd := flat_len_SL L
      have hSo := HS.out
      have HFL : Hid (((L.take k).flatten ++ L[k]).length ≤ 1000000000) := by
        have e : (L.take k).flatten ++ L[k] = (L.take (k + 1)).flatten := by have := flat_done hlt; rwa [List.take_length] at this
        have h2 : (L.take (k + 1)).flatten.length ≤ L.flatten.length := by
          conv => rhs; rw [← List.take_append_drop (k + 1) L, List.flatten_append, List.length_append]
          omega
        show _ ≤ _
        rw [e]
        omega
      generalize hl0 : L[k] = l at *
      generalize (L.take k).flatten = D at *
      obtain ⟨wo, e⟩ : ∃ x, x = wr := ⟨_, rfl⟩
      subst e
      clear hbi hcs hc hinc hl0 hkbd hSo HM
      go_wp2
      go_loopw [4, 22] (fun u i wx => ∃ (j : Nat) (L' : List (List Nod)) (v : Value), j ≤ l.length ∧ i = .int .i64 j ∧ v = u ∧ BI h W wx mb v (D ++ l.take j) L') (fun _ i _ => l.length - (intOf i).toNat)
      case atStart => exact ⟨0, L', _, Nat.zero_le _, rfl, rfl, by rw [List.take_zero, List.append_nil]; exact HBI.out⟩
      case round =>
        clear hcW HBI
        obtain ⟨j, L', v, hjl, rfl, rfl, hbi⟩ := hrel
        by_cases hlj : j < l.length
        · rcases HIN.out with hnil | ⟨b', o', he, hcl, hbW, hcs⟩
          · rw [hnil] at hlj
            exact absurd hlj (by simp)
          simp only [Option.some.injEq, Addr.mk.injEq, and_true] at he
          obtain ⟨rfl, rfl⟩ := he
          obtain ⟨ak, ck, l0, l1, l2, hkd⟩ := hcs j hlj
          have hlo := hbi.choose_spec.lo
          have e0 := (hlo.cell (p := ⟨b, o + j * 3, none⟩) hbW).trans l0
          have e1 := (hlo.cell (p := ⟨b, o + j * 3 + 1, none⟩) hbW).trans l1
          have e2 := (hlo.cell (p := ⟨b, o + j * 3 + 2, none⟩) hbW).trans l2
          have KT := HKT.out _ (List.getElem_mem hlj) ak ck
          have HTK : Hid (D ++ l.take (j + 1) = (D ++ l.take j) ++ [l[j]]) := by
            show _ = _
            rw [List.take_succ_eq_append_getElem hlj, List.append_assoc]
          have HMT : Hid (l[j] ∈ L.flatten) := HMEM.out _ (List.getElem_mem hlj)
          have HKD : Hid (Inc h W ak (l[j]).ks) := hkd
          have hklen : (l[j]).ks.length ≤ 1000000000 := by
            have h1 := HMEM.out _ (List.getElem_mem hlj)
            obtain ⟨l2, hl2, ht2⟩ := List.mem_flatten.1 h1
            exact (SL_node HS.out hl2 ht2).2.2
          have HLB : Hid (L'.length ≤ 1000000000) := by
            have h1 := hbi.choose_spec.sub.length_le
            have h2 := HFL.out
            simp only [List.length_map, List.length_append, List.length_take] at h1 h2
            show _ ≤ _
            omega
          generalize l[j] = t at *
          unfold ndV at KT
          obtain ⟨wa, hwa⟩ : ∃ wa, wa = wr.alloc (.cells #[.string ⟨t.nm.toArray⟩, .string ⟨t.tx.toArray⟩, .slice ak t.ks.length ck] 24) := ⟨_, rfl⟩
          have HA : Hid (BI h W wa mb v (D ++ l.take j) L' ∧ Bx wa wr.heap.size t.nm t.tx (.slice ak t.ks.length ck)) := by
            rw [hwa]
            exact ⟨hbi.below ((Below.refl _ _).alloc (Nat.le_refl _) _), heap_alloc_new _ _⟩
          have hjI : (j : Int) < (l.length : Int) := by omega
          have hj9 : j ≤ 1000000000 := by omega
          clear hbi hlo l0 l1 l2 hkd hcs
          go_wp2_with fail
          rw [← hwa]
          clear hwa
          refine (KT _).mono ?_
          rintro e w1 ⟨rfl, hb1⟩
          obtain ⟨q, hq⟩ : ∃ q, q = wr.heap.size := ⟨_, rfl⟩
          rw [← hq] at HA
          rw [← hq]
          have hbi1 := HA.out.1.below hb1
          have hbx1 := HA.out.2.keep (Md.ofBelow (F := fun _ => False) hb1) (fun h => h)
          have HB1 : Hid (BI h W w1 mb v (D ++ l.take j) L' ∧ Bx w1 q t.nm t.tx (.slice ak t.ks.length ck)) := ⟨hbi1, hbx1⟩
          have d2 : w1.cell? ⟨q, 2, none⟩ = some (.slice ak t.ks.length ck) := cell_blk hbx1 2
          clear hb1 hbi1 hbx1 hq HA KT e0 e1 e2
          obtain ⟨S, hS⟩ : ∃ S, S = sndB t := ⟨_, rfl⟩
          rw [← hS]
          cases S with
          | false =>
            have HZ : Hid (BeR h L W (.returned (.tuple #[.slice none 0 0, .bool false])) w1) := ⟨HB1.out.1.choose_spec.lo, .inl ⟨rfl, t, HMT.out, hS.symm⟩⟩
            clear hS
            go_wp2
            go_ret2
            exact HZ.out
          | true =>
            have HSN : Hid (sndB t = true) := hS.symm
            clear hS
            by_cases hk0 : t.ks = []
            · have hz : t.ks.length = 0 := by rw [hk0]; rfl
              rw [hz] at d2
              have HZ : Hid (BI h W w1 mb v (D ++ l.take (j + 1)) L') := by
                show BI _ _ _ _ _ _ _
                rw [HTK.out]
                exact HB1.out.1.skip t HSN.out (.inl hk0)
              clear hk0 hz
              go_wp2
              go_roundw
              case rel => first | exact ⟨j + 1, L', _, by omega, by go_num, rfl, HZ.out⟩ | ((repeat apply Exists.intro); exact ⟨⟨j + 1, L', _, by omega, by go_num, rfl, HZ.out⟩, rfl⟩)
              case measure => simp [intOf]; omega
            · obtain ⟨b1, o1, rfl⟩ := HKD.out.some hk0
              have hpos : 0 < t.ks.length := List.length_pos_iff.2 hk0
              have hk0b : ((t.ks.length : Int) == 0) = false := by
                rw [beq_eq_false_iff_ne]
                omega
              have KP := (show Hid (Calls Tryz.prog 70 #[.slice (.some ⟨b1, o1, none⟩) t.ks.length ck] w1 fun e w' => e = .returned (.agg #[.pointer (.some ⟨b1, o1, none⟩), .int .i64 t.ks.length]) ∧ Below w1.heap.size w1 w') from place_any b1 o1 t.ks.length ck w1 hpos hklen)
              go_wp2_with fail
              refine KP.out.mono ?_
              rintro e w2 ⟨rfl, hb2⟩
              obtain ⟨w3, hw3⟩ : ∃ w3, w3 = w2.alloc (.cells #[.pointer (.some ⟨b1, o1, none⟩), .int .i64 t.ks.length] 104) := ⟨_, rfl⟩
              obtain ⟨p, hp⟩ : ∃ p, p = w2.heap.size := ⟨_, rfl⟩
              have hb13 : Below w1.heap.size w1 w3 := by
                rw [hw3]
                exact hb2.alloc hb2.size _
              have hbx3 : w3.heap[p]? = .some (.cells #[.pointer (.some ⟨b1, o1, none⟩), .int .i64 t.ks.length] 104 (0, 0)) := by
                rw [hw3, hp]
                exact heap_alloc_new _ _
              have hbi3 := HB1.out.1.below hb13
              have hq3 := HB1.out.2.keep (Md.ofBelow (F := fun _ => False) hb13) (fun h => h)
              have p0 := cell_blk hbx3 0
              have p1 := cell_blk hbx3 1
              simp only [List.getElem?_toArray] at p0 p1
              have hpq : p < w3.heap.size := blk_lt hbx3
              have hLL := HLB.out
              clear KP hb2 hb13 d2
              rcases hbi3.look t HSN.out hk0 HKD.out with ⟨hlk, hbi4⟩ | ⟨hlk, hup⟩
              · have HZ : Hid (BI h W (w3.alloc (.cells #[] 123)) mb v (D ++ l.take (j + 1)) L') := by
                  show BI _ _ _ _ _ _ _
                  rw [HTK.out]
                  exact hbi4.below ((Below.refl _ _).alloc (Nat.le_refl _) _)
                clear hbi3 hbi4 hq3 hbx3
                rw [hw3] at hlk
                rw [hw3] at HZ
                clear hpq p0 p1 hw3 hp
                go_wp2
                go_roundw
                case rel => first | exact ⟨j + 1, L', _, by omega, by go_num, rfl, HZ.out⟩ | ((repeat apply Exists.intro); exact ⟨⟨j + 1, L', _, by omega, by go_num, rfl, HZ.out⟩, rfl⟩)
                case measure => simp [intOf]; omega
              · obtain ⟨w5, hup5, hsz5, hoth5, hs, bj⟩ := hup (w3.alloc (.cells #[] 123)) ((Below.refl _ _).alloc (Nat.le_refl _) _)
                obtain ⟨es, clock, hmap, -⟩ := bj.mp
                have hw4 : Below w3.heap.size w3 (w3.alloc (.cells #[] 123)) := (Below.refl _ _).alloc (Nat.le_refl _) _
                have hqm : q ≠ mb := by
                  rintro rfl
                  obtain ⟨hs3, bj3⟩ := hbi3
                  obtain ⟨es3, cl3, hm3, -⟩ := bj3.mp
                  have e := hq3.symm.trans hm3
                  simp at e
                have hq5 : Bx w5 q t.nm t.tx (.slice (.some ⟨b1, o1, none⟩) t.ks.length ck) := (hoth5 q hqm).trans (hq3.keep (Md.ofBelow (F := fun _ => False) hw4) (fun h => h))
                have q2 : w5.cell? ⟨q, 2, none⟩ = .some (.slice (.some ⟨b1, o1, none⟩) t.ks.length ck) := cell_blk hq5 2
                have hown := bj.row.alloc (.cells #[.slice (.some ⟨b1, o1, none⟩) t.ks.length ck] 22)
                have hbase : W.heap.size + 1 ≤ (w5.alloc (.cells #[.slice (.some ⟨b1, o1, none⟩) t.ks.length ck] 22)).heap.size := by
                  have h1 := bj.sz
                  show _ ≤ (w5.heap.push _).size
                  simp
                  omega
                have HBJ : Hid (BJ h W (w5.alloc (.cells #[.slice (.some ⟨b1, o1, none⟩) t.ks.length ck] 22)) mb v (D ++ l.take j) L' hs (fun x => x = pkV b1 o1 t.ks.length)) := bj.below ((Below.refl _ _).alloc (Nat.le_refl _) _)
                rw [hw3] at hlk hup5
                have pz := p0
                rw [hw3] at p0 p1
                clear hbi3 hq3 hbx3 hup bj hmap hq5 hw4 hoth5 hsz5 hw3 hp pz hpq hqm
                go_wp2_with (at_builtin; refine wpList_append_own _ rfl (.tmp 47) (.tmp 50) 96 rfl (W.heap.size + 1) 22 i0 (.slice none 0 0) 1 24 Tryz.underlying96 hii hz0 hz1 hz2 rfl (by decide) _ _ _ rfl hown ⟨w5.heap.size, 0, none⟩ 1 1 [.slice (.some ⟨b1, o1, none⟩) t.ks.length ck] rfl rfl (cell_one_at w5 _ _) (one_slice _ _ _) (by unfold maxLen; omega) (by omega) hbase ?_; intro v7 w7 hown7 hg7 _)
                have HZ : Hid (BI h W w7 mb v7 (D ++ l.take (j + 1)) (L' ++ [t.ks])) := by
                  show BI _ _ _ _ _ _ _
                  rw [HTK.out]
                  exact HBJ.out.grow HSN.out hk0 HKD.out hg7 hown7
                clear hown7 hg7 HBJ
                go_wp2
                go_roundw
                case rel => first | exact ⟨j + 1, _, _, by omega, by go_num, rfl, HZ.out⟩ | ((repeat apply Exists.intro); exact ⟨⟨j + 1, _, _, by omega, by go_num, rfl, HZ.out⟩, rfl⟩)
                case measure => simp [intOf]; omega
        · obtain rfl : j = l.length := by omega
          have HZ : Hid (BI h W wr mb v (L.take (k + 1)).flatten L') := by
            show BI _ _ _ _ _ _ _
            rw [← HFD.out]
            exact hbi
          clear hbi
          go_wp2
          go_roundw
          case rel => first | exact ⟨k + 1, L', _, by omega, by go_num, rfl, HZ.out⟩ | ((repeat apply Exists.intro); exact ⟨⟨k + 1, L', _, by omega, by go_num, rfl, HZ.out⟩, rfl⟩)
          case measure => simp [intOf]; omega
    · obtain rfl : k = L.length := by omega
      rw [List.take_length] at hbi
      have HZ : Hid (BeR h L W (.returned (.tuple #[v, .bool true])) wr) := by
        obtain ⟨hs, bj⟩ := hbi
        exact ⟨bj.lo, .inr ⟨v, L', rfl, BI.lv ⟨hs, bj⟩, bj.sn, bj.cm, bj.sub, bj.ne⟩⟩
      clear hbi
      go_wp2
      go_ret2
      exact HZ.out
end Go.Proofs.YtohkocknpmnakaaGreatDoor
/-
  printable, of every element.
-/
namespace Go.Proofs.YtohkocknpmnakaaGreatDoor
open Go.RowKit

theorem Lv.below {h : Nat} {w w' : World} {v : Value} {L : List (List Nod)} (hv : Lv h w v L) (hb : Below w.heap.size w w') : Lv h w' v L := by
  obtain ⟨a, c, rfl, h1 | ⟨g, off, rfl, hg, h2⟩⟩ := hv
  · exact ⟨a, c, rfl, .inl h1⟩
  · refine ⟨_, c, rfl, .inr ⟨g, off, rfl, Nat.lt_of_lt_of_le hg hb.size, fun j hj => ?_⟩⟩
    obtain ⟨b, o, cj, k1, k2⟩ := h2 j hj
    exact ⟨b, o, cj, (hb.cell (p := ⟨g, off + j, none⟩) hg).trans k1, k2.below hb⟩
/-- Where printable's loop stands. -/
structure PL (t : Nod) (d : Nat) (L : List (List Nod)) (hh : Nat) (v : Value) (W w : World) : Prop where
  lv : Lv hh w v L
  ne : ∀ l ∈ L, l ≠ []
  sl : SL L ≤ 1000000000
  ok : okK 16 [t] = okL (16 - d) L
  lo : Below W.heap.size W w
theorem PL.height {t : Nod} {d : Nat} {L : List (List Nod)} {hh : Nat} {v : Value} {W w : World} (p : PL t d L hh v W w) (hL : L ≠ []) : ∃ h', hh = h' + 1 := by
  cases hh with
  | succ h' => exact ⟨h', rfl⟩
  | zero =>
    obtain ⟨a, c, -, h1 | ⟨g, off, -, -, h2⟩⟩ := p.lv
    · exact absurd h1 hL
    · obtain ⟨b, o, cj, -, k2⟩ := h2 0 (List.length_pos_iff.2 hL)
      exact absurd (show L[0]'(List.length_pos_iff.2 hL) = [] from k2) (p.ne _ (List.getElem_mem _))
theorem PL.next {t : Nod} {d : Nat} {L : List (List Nod)} {h' : Nat} {v : Value} {W w : World} (p : PL t d L (h' + 1) v W w) (hd : d < 16) {e : Ending} {w' : World} (h : BeR h' L w e w') :
    Below W.heap.size W w' ∧ ((e = .returned (.tuple #[.slice none 0 0, .bool false]) ∧ okK 16 [t] = false) ∨ ∃ v' L', e = .returned (.tuple #[v', .bool true]) ∧ PL t (d + 1) L' h' v' W w') := by
  obtain ⟨hb, h | ⟨v', L', rfl, h1, h2, h3, h4, h5⟩⟩ := h
  · refine ⟨p.lo.trans (hb.mono p.lo.size), .inl ⟨h.1, ?_⟩⟩
    rw [p.ok, show 16 - d = (15 - d) + 1 by omega]
    exact okL_bad _ h.2
  · refine ⟨p.lo.trans (hb.mono p.lo.size), .inr ⟨v', L', rfl, h1, h5, ?_, ?_, p.lo.trans (hb.mono p.lo.size)⟩⟩
    · exact Nat.le_trans (Nat.le_trans (SL_sub h4) (SL_kids L)) p.sl
    · rw [p.ok, show 16 - d = (16 - (d + 1)) + 1 by omega]
      exact okL_next _ h2 h3 h4

set_option maxRecDepth 20000 in
set_option maxHeartbeats 3200000 in
theorem printable_any (h : Nat) (t : Nod) (a : Option Addr) (c : Nat) (w : World) (hi : Inc h w a t.ks) (hlen : (elL [] t).length ≤ 1000000000) :
    Calls Tryz.prog 34 #[ndV t a c] w fun e w' => e = .returned (.bool (okK 16 [t])) ∧ Below w.heap.size w w' := by
  unfold ndV
  obtain ⟨wa, hwa⟩ : ∃ wa, wa = ((w.alloc (.cells #[.string ⟨t.nm.toArray⟩, .string ⟨t.tx.toArray⟩, .slice a t.ks.length c] 24)).alloc (.cells #[.string ⟨t.nm.toArray⟩, .string ⟨t.tx.toArray⟩, .slice a t.ks.length c] 24)).alloc (.cells #[.slice (some ⟨w.heap.size + 1, 0, none⟩) 1 1] 22) := ⟨_, rfl⟩
  have e1 : (w.alloc (.cells #[.string ⟨t.nm.toArray⟩, .string ⟨t.tx.toArray⟩, .slice a t.ks.length c] 24)).heap.size = w.heap.size + 1 := by show (w.heap.push _).size = _; simp
  have e2 : ((w.alloc (.cells #[.string ⟨t.nm.toArray⟩, .string ⟨t.tx.toArray⟩, .slice a t.ks.length c] 24)).alloc (.cells #[.string ⟨t.nm.toArray⟩, .string ⟨t.tx.toArray⟩, .slice a t.ks.length c] 24)).heap.size = w.heap.size + 1 + 1 := by show ((w.heap.push _).push _).size = _; simp
  have HA : Hid (PL t 0 [[t]] (h + 1) (.slice (some ⟨w.heap.size + 1 + 1, 0, none⟩) 1 1) w wa) := by
    have hg : wa.heap[w.heap.size + 1 + 1]? = some (.cells #[.slice (some ⟨w.heap.size + 1, 0, none⟩) 1 1] 22 (0, 0)) := by
      rw [hwa]
      have := heap_alloc_new ((w.alloc (.cells #[.string ⟨t.nm.toArray⟩, .string ⟨t.tx.toArray⟩, .slice a t.ks.length c] 24)).alloc (.cells #[.string ⟨t.nm.toArray⟩, .string ⟨t.tx.toArray⟩, .slice a t.ks.length c] 24)) (.cells #[.slice (some ⟨w.heap.size + 1, 0, none⟩) 1 1] 22)
      rw [e2] at this
      exact this
    have hbx : Bx wa (w.heap.size + 1) t.nm t.tx (.slice a t.ks.length c) := by
      rw [hwa]
      have := heap_alloc_new (w.alloc (.cells #[.string ⟨t.nm.toArray⟩, .string ⟨t.tx.toArray⟩, .slice a t.ks.length c] 24)) (.cells #[.string ⟨t.nm.toArray⟩, .string ⟨t.tx.toArray⟩, .slice a t.ks.length c] 24)
      rw [e1] at this
      exact keep_blk this ((Md.refl (fun _ => False) _).alloc _) (fun h => h)
    have hlo : Below w.heap.size w wa := by
      rw [hwa]
      exact (((Below.refl _ _).alloc (Nat.le_refl _) _).alloc (by rw [e1]; omega) _).alloc (by rw [e2]; omega) _
    refine ⟨⟨_, _, rfl, .inr ⟨w.heap.size + 1 + 1, 0, rfl, blk_lt hg, fun j hj => ?_⟩⟩, by simp, ?_, by simp [okL], hlo⟩
    · obtain rfl : j = 0 := by simpa using hj
      refine ⟨w.heap.size + 1, 0, 1, cell_blk hg 0, .inr ⟨w.heap.size + 1, 0, rfl, ⟨_, _, hbx⟩, blk_lt hbx, fun j hj => ?_⟩⟩
      obtain rfl : j = 0 := by simpa using hj
      exact ⟨a, c, by simpa using cell_blk hbx 0, by simpa using cell_blk hbx 1, by simpa using cell_blk hbx 2, hi.below hlo⟩
    · rw [SL_cons, els_cons, els_nil, List.append_nil]
      simpa [SL] using hlen
  have KB := (show Hid (∀ (h' : Nat) (v : Value) (L : List (List Nod)) (W : World), Lv (h' + 1) W v L → (∀ l ∈ L, l ≠ []) → SL L ≤ 1000000000 → Calls Tryz.prog 67 #[v] W (BeR h' L W)) from fun h' v L W => below_any h' v L W)
  clear hi hlen e1 e2
  go_enter Tryz.func34, Tryz.ntmps34
  go_wp2
  rw [← hwa]
  clear hwa
  go_loopw [3, 4, 5] (fun u o i wx => (o = .bool true ∧ ∃ (d hh : Nat) (L : List (List Nod)) (v : Value), d ≤ 16 ∧ i = .int .i64 ((d : Int) + 1) ∧ v = u ∧ PL t d L hh v w wx) ∨ (o = .bool false ∧ okK 16 [t] = false ∧ Below w.heap.size w wx ∧ ∃ d : Nat, d ≤ 17 ∧ i = .int .i64 ((d : Int) + 1))) (fun _ _ i _ => 18 - (intOf i).toNat)
  case atStart => exact .inl ⟨rfl, 0, _, _, _, by omega, rfl, rfl, HA.out⟩
  case round =>
    rcases hrel with ⟨rfl, d, hh, L, v, hd, rfl, rfl, hpl⟩ | ⟨rfl, hbad, hlo, d, hd, rfl⟩
    · by_cases hL : L = []
      · have HZ : Hid (okK 16 [t] = true ∧ Below w.heap.size w wr) := by
          refine ⟨?_, hpl.lo⟩
          rw [hpl.ok, hL]
          rfl
        obtain ⟨a1, c1, rfl, -⟩ := hpl.lv
        subst hL
        clear hpl HA
        go_wp2
        go_ret
        exact ⟨by rw [HZ.out.1]; rfl, HZ.out.2⟩
      · obtain ⟨h', rfl⟩ := hpl.height hL
        have hpos := List.length_pos_iff.2 hL
        have hll : L.length ≤ 1000000000 := Nat.le_trans (SL_len hpl.ne) hpl.sl
        have HPL : Hid (PL t d L (h' + 1) v w wr) := hpl
        have KBL := KB.out h' v L wr hpl.lv hpl.ne hpl.sl
        obtain ⟨a1, c1, rfl, -⟩ := hpl.lv
        have hpI : (0 : Int) < (L.length : Int) := by omega
        by_cases h16 : d = 16
        · have HZ : Hid (okK 16 [t] = false ∧ Below w.heap.size w wr) := by
            refine ⟨?_, hpl.lo⟩
            rw [hpl.ok, h16]
            exact okL_zero hpl.ne hL
          subst h16
          clear hpl HPL KBL HA
          go_wp2
          go_ret
          exact ⟨by rw [HZ.out.1]; rfl, HZ.out.2⟩
        · have hd16 : d < 16 := by omega
          clear hpl HA
          go_wp2_with fail
          refine KBL.mono ?_
          rintro e w1 hbe
          rcases HPL.out.next hd16 hbe with ⟨hlo1, ⟨rfl, hbad⟩ | ⟨v', L', rfl, hpl1⟩⟩
          · have HZ : Hid (okK 16 [t] = false ∧ Below w.heap.size w w1) := ⟨hbad, hlo1⟩
            clear hlo1 hbad hbe KBL HPL
            go_wp2
            go_roundw
            case rel => exact .inr ⟨rfl, HZ.out.1, HZ.out.2, d + 1, by omega, by go_num⟩
            case measure => simp [intOf]; omega
          · have HZ : Hid (PL t (d + 1) L' h' v' w w1) := hpl1
            clear hlo1 hpl1 hbe KBL HPL
            go_wp2
            go_roundw
            case rel => exact .inl ⟨rfl, d + 1, h', L', v', by omega, by go_num, rfl, HZ.out⟩
            case measure => simp [intOf]; omega
    · have HZ : Hid (okK 16 [t] = false ∧ Below w.heap.size w wr) := ⟨hbad, hlo⟩
      clear hbad hlo
      go_wp2
      go_ret
      exact ⟨by rw [HZ.out.1]; rfl, HZ.out.2⟩
end Go.Proofs.YtohkocknpmnakaaGreatDoor
/-
  Print, of every element.
-/
namespace Go.Proofs.YtohkocknpmnakaaGreatDoor
open Go.RowKit

def spaceL : List UInt8 := [32, 120, 109, 108, 110, 115, 61, 34, 104, 116, 116, 112, 58, 47, 47, 115, 51, 46, 97, 109, 97, 122, 111, 110, 97, 119, 115, 46, 99, 111, 109, 47, 100, 111, 99, 47, 50, 48, 48, 54, 45, 48, 51, 45, 48, 49, 47, 34]
/-- What stands behind the outermost name. -/
def attL (s : Bool) : List UInt8 := if s then spaceL else []
/-- The document of an element. -/
def docL (s : Bool) (t : Nod) : List UInt8 := headL ++ elL (attL s) t
/-- What Print tells. -/
def prnV (s : Bool) (t : Nod) : Value :=
  if okK 16 [t] then (if (docL s t).length ≤ 65536 then .tuple #[.string ⟨(docL s t).toArray⟩, .int .i64 0] else .tuple #[.string ⟨#[]⟩, .int .i64 2]) else .tuple #[.string ⟨#[]⟩, .int .i64 130]
theorem el_att (s : Bool) (t : Nod) : (elL [] t).length ≤ (elL (attL s) t).length := by
  rw [elL_eq, elL_eq]
  simp only [List.length_append, List.flatten_cons, List.flatten_nil, List.length_cons, List.length_nil]
  omega

set_option maxRecDepth 20000 in
set_option maxHeartbeats 3200000 in
theorem print_any (h : Nat) (s : Bool) (t : Nod) (a : Option Addr) (c : Nat) (w : World) (hi : Inc h w a t.ks) (hlen : (docL s t).length ≤ 1000000000) :
    Calls Tryz.prog 15 #[ndV t a c, .bool s] w fun e w' => e = .returned (prnV s t) ∧ Below w.heap.size w w' := by
  have hd : (headL ++ elL (attL s) t).length ≤ 1000000000 := hlen
  have hel : (elL (attL s) t).length ≤ 1000000000 := by
    rw [List.length_append] at hd
    omega
  have KP := (show Hid (∀ W, Below w.heap.size w W → Calls Tryz.prog 34 #[ndV t a c] W fun e w' => e = .returned (.bool (okK 16 [t])) ∧ Below W.heap.size W w') from fun W hb => printable_any h t a c W (hi.below hb) (Nat.le_trans (el_att s t) hel))
  have KE := (show Hid (∀ B W, w.heap.size ≤ B → Below w.heap.size w W → Lib.IsBuilderF 66 5 B B (Lib.byteCells ([] ++ headL)) W → B < W.heap.size → Calls Tryz.prog 36 #[.pointer (some ⟨B, 0, none⟩), ndV t a c, .string ⟨(attL s).toArray⟩] W (PeR t (attL s) ([] ++ headL) B W)) from fun B W hB hb hu hlt => by
    refine peq_all h t a c (attL s) ([] ++ headL) B W hu hlt ?_ hd
    have h2 : Kd (fun b => b < w.heap.size ∧ Cln w b) h w a t.ks := Kd.mono (fun b hg hlt => ⟨hlt, hg⟩) hi
    have h3 := Kd.keep (w' := W) hb.size (fun b hg _ => hb.block b hg.1) h2
    exact h3.mono (fun b hg _ => by omega))
  have HV : Hid (prnV s t = if okK 16 [t] then (if (docL s t).length ≤ 65536 then .tuple #[.string ⟨(docL s t).toArray⟩, .int .i64 0] else .tuple #[.string ⟨#[]⟩, .int .i64 2]) else .tuple #[.string ⟨#[]⟩, .int .i64 130]) := rfl
  have HDL : Hid ([] ++ headL ++ elL (attL s) t = docL s t) := rfl
  have HL : Hid (([] ++ headL : List UInt8) = (⟨#[60, 63, 120, 109, 108, 32, 118, 101, 114, 115, 105, 111, 110, 61, 34, 49, 46, 48, 34, 32, 101, 110, 99, 111, 100, 105, 110, 103, 61, 34, 85, 84, 70, 45, 56, 34, 63, 62, 10]⟩ : ByteArray).data.toList) := rfl
  unfold ndV at KP KE ⊢
  obtain ⟨w0, hw0⟩ : ∃ w0, w0 = w.alloc (.cells #[.string ⟨t.nm.toArray⟩, .string ⟨t.tx.toArray⟩, .slice a t.ks.length c] 24) := ⟨_, rfl⟩
  have H0 : Hid (Bx w0 w.heap.size t.nm t.tx (.slice a t.ks.length c) ∧ Below w.heap.size w w0) := by
    rw [hw0]
    exact ⟨heap_alloc_new w _, (Below.refl _ _).alloc (Nat.le_refl _) _⟩
  clear hi hlen hd hel
  generalize okK 16 [t] = OK at *
  unfold PeR at KE
  generalize prnV s t = PV at *
  generalize docL s t = DL at *
  generalize ([] ++ headL : List UInt8) = HD at *
  rw [HDL.out] at KE
  go_enter Tryz.func15, Tryz.ntmps15
  go_wp2_with fail
  rw [← hw0]
  clear hw0
  refine (KP.out _ H0.out.2).mono ?_
  rintro e w1 ⟨rfl, hb1⟩
  have H1 : Hid (Bx w1 w.heap.size t.nm t.tx (.slice a t.ks.length c) ∧ Below w.heap.size w w1) := ⟨H0.out.1.keep (Md.ofBelow (F := fun _ => False) hb1) (fun h => h), H0.out.2.trans (hb1.mono H0.out.2.size)⟩
  clear hb1 H0 KP
  cases OK with
  | false =>
    go_wp2
    go_ret2
    exact ⟨by rw [HV.out]; rfl, H1.out.2⟩
  | true =>
    have hib := isB_new w1
    have hw2 : Below w1.heap.size w1 (w1.alloc (.cells #[.pointer none, .slice none 0 0] 66)) := (Below.refl _ _).alloc (Nat.le_refl _) _
    have hsz2 : (w1.alloc (.cells #[.pointer none, .slice none 0 0] 66)).heap.size = w1.heap.size + 1 := by show (w1.heap.push _).size = _; simp
    obtain ⟨w2, e2⟩ : ∃ w2, w2 = w1.alloc (.cells #[.pointer none, .slice none 0 0] 66) := ⟨_, rfl⟩
    rw [← e2] at hib hw2 hsz2
    have H2 : Hid (Bx w2 w.heap.size t.nm t.tx (.slice a t.ks.length c) ∧ Below w.heap.size w w2 ∧ w2.heap.size = w1.heap.size + 1) := ⟨H1.out.1.keep (Md.ofBelow (F := fun _ => False) hw2) (fun h => h), H1.out.2.trans (hw2.mono H1.out.2.size), hsz2⟩
    have K3 : Calls Tryz.prog 35 #[.pointer (some ⟨w1.heap.size, 0, none⟩), .string ⟨#[60, 63, 120, 109, 108, 32, 118, 101, 114, 115, 105, 111, 110, 61, 34, 49, 46, 48, 34, 32, 101, 110, 99, 111, 100, 105, 110, 103, 61, 34, 85, 84, 70, 45, 56, 34, 63, 62, 10]⟩] w2 fun e w' => (∃ z, e = .returned (.tuple #[z, .nilIface])) ∧ Lib.IsBuilderF 66 5 w1.heap.size w1.heap.size (Lib.byteCells HD) w' ∧ Below w1.heap.size w2 w' ∧ Lib.OthersKept 5 (some w1.heap.size) w2 w' := by
      refine (ws_any w1.heap.size w2 [] ⟨#[60, 63, 120, 109, 108, 32, 118, 101, 114, 115, 105, 111, 110, 61, 34, 49, 46, 48, 34, 32, 101, 110, 99, 111, 100, 105, 110, 103, 61, 34, 85, 84, 70, 45, 56, 34, 63, 62, 10]⟩ hib (by decide) (by omega)).mono ?_
      rintro e w' ⟨rfl, h1, h2, h3⟩
      rw [List.nil_append, ← HL.out] at h1
      exact ⟨⟨_, rfl⟩, h1, h2, h3⟩
    clear hib hw2 hsz2
    have hlt : w.heap.size < w1.heap.size := blk_lt H1.out.1
    obtain ⟨AT, hAT⟩ : ∃ AT : ByteArray, AT = ⟨(attL s).toArray⟩ := ⟨_, rfl⟩
    rw [← hAT] at KE
    have HAT : Hid ((s = true → AT = ⟨#[32, 120, 109, 108, 110, 115, 61, 34, 104, 116, 116, 112, 58, 47, 47, 115, 51, 46, 97, 109, 97, 122, 111, 110, 97, 119, 115, 46, 99, 111, 109, 47, 100, 111, 99, 47, 50, 48, 48, 54, 45, 48, 51, 45, 48, 49, 47, 34]⟩) ∧ (s = false → AT = ⟨#[]⟩)) := by
      rw [hAT]
      exact ⟨fun h => by rw [h]; rfl, fun h => by rw [h]; rfl⟩
    clear hAT
    cases s
    all_goals
      first
        | rw [HAT.out.2 rfl] at KE
        | rw [HAT.out.1 rfl] at KE
      clear HAT
      go_wp2_with fail
      rw [← e2]
      clear e2
      with_reducible refine K3.mono ?_
      rintro e w3 ⟨⟨z3, rfl⟩, hi3, hb3, ho3⟩
      have bx3 : Bx w3 w.heap.size t.nm t.tx (.slice a t.ks.length c) := ho3 _ _ H2.out.1 (by simp; omega) (by intro c fz e; injection e with _ e _; cases e)
      obtain ⟨⟨c0, c1, c2⟩, -⟩ := Bx.cells bx3
      have h3 := H2.out.2.1.trans (hb3.mono H1.out.2.size)
      have hz3 : w1.heap.size < w3.heap.size := by have := H2.out.2.2; have := hb3.size; omega
      have K4 := KE.out w1.heap.size w3 H1.out.2.size h3 hi3 hz3
      have H3 : Hid (Below w.heap.size w w3 ∧ w1.heap.size ≤ w3.heap.size) := ⟨h3, by omega⟩
      clear bx3 hi3 hb3 ho3 K3 h3 hz3
      obtain ⟨FL, hFL⟩ : ∃ FL, FL = decide (DL.length ≤ 65536) := ⟨_, rfl⟩
      rw [← hFL] at K4
      go_wp2_with fail
      refine K4.mono ?_
      rintro e w4 ⟨bl', rfl, hi4, hb4, -, hbl⟩
      have H4 : Hid (Below w.heap.size w w4) := H3.out.1.trans (hb4.mono H1.out.2.size)
      have hsz4 := hb4.size
      clear hb4 K4 c0 c1 c2
      cases FL with
      | false =>
        have hno : ¬ DL.length ≤ 65536 := of_decide_eq_false hFL.symm
        have HZ : Hid (PV = .tuple #[.string ⟨#[]⟩, .int .i64 2]) := by
          show _ = _
          rw [HV.out, if_pos trivial, if_neg hno]
        clear hno hFL hbl hi4
        go_wp2
        go_ret2
        exact ⟨by rw [HZ.out]; rfl, H4.out⟩
      | true =>
        have hyes : DL.length ≤ 65536 := of_decide_eq_true hFL.symm
        have hb' := hbl hyes
        subst hb'
        have HZ : Hid (PV = .tuple #[.string ⟨bl'.toArray⟩, .int .i64 0]) := by
          show _ = _
          rw [HV.out, if_pos trivial, if_pos hyes]
        have K5 := Builder_String_any_f w1.heap.size w1.heap.size bl' w4 hi4 (Nat.le_trans H3.out.2 hsz4)
        clear hyes hFL hbl hi4
        go_wp2_with fail
        refine K5.mono ?_
        rintro e w5 ⟨rfl, -, hb5⟩
        have H5 : Hid (Below w.heap.size w w5) := H4.out.trans (hb5.mono H1.out.2.size)
        clear hb5 K5
        go_wp2
        go_ret2
        exact ⟨by rw [HZ.out]; rfl, H5.out⟩
end Go.Proofs.YtohkocknpmnakaaGreatDoor
/-
  What is printed is read as it was: the plain mathematics of texts.
-/
namespace Go.Proofs.YtohkocknpmnakaaGreatDoor

theorem upto_semi {a r : List UInt8} (h : a.all (fun c => c != 59) = true) : upto 59 (a ++ 59 :: r) = a := by
  induction a with
  | nil => simp [upto]
  | cons c q ih =>
    simp only [List.all_cons, Bool.and_eq_true] at h
    have := ih h.2
    unfold upto at this ⊢
    rw [List.cons_append, List.takeWhile_cons_of_pos (p := fun x => x != 59) (by exact h.1), this]
theorem une_ent {a r : List UInt8} (h : a.all (fun c => c != 59) = true) : une (38 :: (a ++ 59 :: r)) = (entL a).bind fun t => (une r).map (t ++ ·) := by
  rw [une_amp, upto_semi h, if_neg (by simp)]
  have e : (a ++ 59 :: r).drop (a.length + 1) = r := by
    rw [← List.drop_drop, List.drop_left]
    rfl
  rw [e]
theorem ent_amp : entL [97, 109, 112] = some [38] := by decide
theorem ent_lt : entL [108, 116] = some [60] := by decide
theorem ent_gt : entL [103, 116] = some [62] := by decide
theorem ent_quot : entL [113, 117, 111, 116] = some [34] := by decide
theorem ent_13 : entL [35, 49, 51] = some [13] := by decide
theorem u8_of {c : UInt8} {n : Nat} (h : (c.toNat : Int) = n) : c = UInt8.ofNat n := by
  have : c.toNat = n := by omega
  rw [← this]
  simp
theorem une_escB (c : UInt8) (r : List UInt8) : une (escB c ++ r) = (une r).map (c :: ·) := by
  have go : ∀ (a : List UInt8) (d : UInt8), a.all (fun c => c != 59) = true → entL a = some [d] → une (38 :: (a ++ 59 :: r)) = (une r).map (d :: ·) := by
    intro a d h1 h2
    rw [une_ent h1, h2]
    rfl
  unfold escB
  by_cases h38 : (c.toNat : Int) = 38
  · obtain rfl : c = 38 := u8_of h38
    exact go [97, 109, 112] 38 (by decide) ent_amp
  by_cases h60 : (c.toNat : Int) = 60
  · obtain rfl : c = 60 := u8_of h60
    exact go [108, 116] 60 (by decide) ent_lt
  by_cases h62 : (c.toNat : Int) = 62
  · obtain rfl : c = 62 := u8_of h62
    exact go [103, 116] 62 (by decide) ent_gt
  by_cases h34 : (c.toNat : Int) = 34
  · obtain rfl : c = 34 := u8_of h34
    exact go [113, 117, 111, 116] 34 (by decide) ent_quot
  by_cases h13 : (c.toNat : Int) = 13
  · obtain rfl : c = 13 := u8_of h13
    exact go [35, 49, 51] 13 (by decide) ent_13
  have he : eoL (c.toNat : Int) = [] := by
    unfold eoL
    rw [if_neg h38, if_neg h60, if_neg h62, if_neg h34, if_neg h13]
  rw [if_pos he]
  exact une_cons c r (by rintro rfl; exact h13 rfl) (by rintro rfl; exact h38 rfl)
/-- Escaping loses nothing. -/
theorem une_escX : ∀ x : List UInt8, une (escX x) = some x
  | [] => rfl
  | c :: r => by
    have e : escX (c :: r) = escB c ++ escX r := by simp [escX]
    rw [e, une_escB, une_escX r]
    rfl

def Lg (l : List UInt8) : Bool := (cntP xmlP l).isSome
def asc (c : UInt8) : Bool := decide (c.toNat < 128) && xmlP c.toNat
theorem lg_cons {c : UInt8} (l : List UInt8) (h : asc c = true) : Lg (c :: l) = Lg l := by
  simp only [asc, Bool.and_eq_true, decide_eq_true_eq] at h
  have hd := dec_ascii c l h.1
  have hs : stepL (c :: l) = (c.toNat, 1) := by
    unfold stepL
    rw [hd, if_neg (by intro hh; have := hh.1; simp at this; omega)]
  unfold Lg
  rw [cntP_go (by simp) (by rw [hs]; exact Nat.one_ne_zero) (by rw [hs]; exact h.2), hs]
  simp
theorem lg_ascs : ∀ {a : List UInt8} (l : List UInt8), a.all asc = true → Lg (a ++ l) = Lg l
  | [], _, _ => rfl
  | c :: r, l, h => by
    simp only [List.all_cons, Bool.and_eq_true] at h
    rw [List.cons_append, lg_cons _ h.1, lg_ascs l h.2]
theorem dec_trunc (n m b0 b1 b2 b3 c1 c2 c3 : Nat) (hw : (Lib.decodeN n b0 b1 b2 b3).2 ≤ m) (h1 : 1 < (Lib.decodeN n b0 b1 b2 b3).2 → c1 = b1) (h2 : 2 < (Lib.decodeN n b0 b1 b2 b3).2 → c2 = b2) (h3 : 3 < (Lib.decodeN n b0 b1 b2 b3).2 → c3 = b3)
    (hb : ¬ ((Lib.decodeN n b0 b1 b2 b3).1 = 65533 ∧ (Lib.decodeN n b0 b1 b2 b3).2 = 1)) : Lib.decodeN m b0 c1 c2 c3 = Lib.decodeN n b0 b1 b2 b3 := by
  unfold Lib.decodeN at hw h1 h2 h3 hb ⊢
  (repeat' split at hw) <;> simp_all <;> (repeat' split) <;> simp_all <;> omega
theorem at0_take {l z : List UInt8} {w k : Nat} (h : k < w) (hw : w ≤ l.length) : at0 (l.take w ++ z) k = at0 l k := by
  rw [at0_append (by rw [List.length_take]; omega)]
  unfold at0
  rw [List.getD_eq_getElem?_getD, List.getD_eq_getElem?_getD, List.getElem?_take_of_lt h]
/-- A character stays what it is, whatever follows its own bytes. -/
theorem step_trunc {l : List UInt8} (z : List UInt8) (hl : l ≠ []) (h : (stepL l).2 ≠ 0) : stepL (l.take (stepL l).2 ++ z) = stepL l := by
  have hp := List.length_pos_iff.2 hl
  obtain ⟨e, hb⟩ := step_good h
  have hw := dec_width l.length (at0 l 0) (at0 l 1) (at0 l 2) (at0 l 3) hp
  have hd : decL (l.take (stepL l).2 ++ z) = decL l := by
    rw [e]
    have hw2 : 1 ≤ (decL l).2 ∧ (decL l).2 ≤ l.length := ⟨hw.1, hw.2.1⟩
    have e0 : at0 (l.take (decL l).2 ++ z) 0 = at0 l 0 := at0_take (by omega) hw2.2
    have key := dec_trunc l.length (l.take (decL l).2 ++ z).length (at0 l 0) (at0 l 1) (at0 l 2) (at0 l 3) (at0 (l.take (decL l).2 ++ z) 1) (at0 (l.take (decL l).2 ++ z) 2) (at0 (l.take (decL l).2 ++ z) 3) (by
      show (decL l).2 ≤ _
      rw [List.length_append, List.length_take]
      omega) (fun h => at0_take h hw2.2) (fun h => at0_take h hw2.2) (fun h => at0_take h hw2.2) hb
    rw [← e0] at key
    have key2 : decL (l.take (decL l).2 ++ z) = Lib.decodeN l.length (at0 (l.take (decL l).2 ++ z) 0) (at0 l 1) (at0 l 2) (at0 l 3) := key
    rw [key2, e0]
    rfl
  rw [stepL, hd, if_neg hb, ← e]
theorem escB_asc {c : UInt8} (h : asc c = true) : (escB c).all asc = true := by
  unfold escB
  split
  · simpa using h
  · unfold eoL
    (repeat' split) <;> first | decide | contradiction
/-- A legal text stays legal where it is escaped. -/
theorem lg_escX : ∀ (n : Nat) (x y : List UInt8), x.length ≤ n → Lg x = true → Lg (escX x ++ y) = Lg y
  | _, [], y, _, _ => rfl
  | 0, c :: r, _, h, _ => by simp at h
  | n + 1, c :: r, y, hn, h => by
    by_cases hc : c.toNat < 128
    · have hd := dec_ascii c r hc
      have hs : stepL (c :: r) = (c.toNat, 1) := by
        unfold stepL
        rw [hd, if_neg (by intro hh; have := hh.1; simp at this; omega)]
      have hx : xmlP c.toNat = true := by
        cases hx : xmlP c.toNat with
        | true => rfl
        | false =>
          have : cntP xmlP (c :: r) = none := cntP_out (by simp) (by rw [hs]; exact hx)
          unfold Lg at h
          rw [this] at h
          cases h
      have ha : asc c = true := by simp [asc, hc, hx]
      have e : escX (c :: r) = escB c ++ escX r := by simp [escX]
      rw [lg_cons _ ha] at h
      rw [e, List.append_assoc, lg_ascs _ (escB_asc ha)]
      exact lg_escX n r y (by simpa using hn) h
    · have hne : (c :: r) ≠ [] := by simp
      by_cases hb : (stepL (c :: r)).2 = 0
      · have : cntP xmlP (c :: r) = none := cntP_bad hne hb
        unfold Lg at h
        rw [this] at h
        cases h
      · cases hx : xmlP (stepL (c :: r)).1 with
        | false =>
          have : cntP xmlP (c :: r) = none := cntP_out hne hx
          unfold Lg at h
          rw [this] at h
          cases h
        | true =>
          obtain ⟨e, -⟩ := step_good hb
          have hall : ∀ z ∈ (c :: r).take (stepL (c :: r)).2, eoL (z.toNat : Int) = [] := by
            intro z hz
            rw [e] at hz
            have := dec_take c r (by omega) z hz
            exact eo_great _ (by omega)
          have hw := step_le (c :: r) hne
          have hst := fun z => step_trunc (l := c :: r) z hne hb
          have hlr : Lg ((c :: r).drop (stepL (c :: r)).2) = true := by
            unfold Lg at h ⊢
            rw [cntP_go hne hb hx] at h
            simpa using h
          have hsp : c :: r = (c :: r).take (stepL (c :: r)).2 ++ (c :: r).drop (stepL (c :: r)).2 := (List.take_append_drop _ _).symm
          have hex : escX (c :: r) = (c :: r).take (stepL (c :: r)).2 ++ escX ((c :: r).drop (stepL (c :: r)).2) := by
            conv => lhs; rw [hsp]
            rw [escX_app, escX_plain _ hall]
          have ih := lg_escX n ((c :: r).drop (stepL (c :: r)).2) y (by simp only [List.length_drop]; omega) hlr
          rw [hex, List.append_assoc]
          have h2 := hst (escX ((c :: r).drop (stepL (c :: r)).2) ++ y)
          have htl : ((c :: r).take (stepL (c :: r)).2).length = (stepL (c :: r)).2 := by rw [List.length_take]; omega
          generalize hU : (c :: r).take (stepL (c :: r)).2 = U at *
          generalize escX ((c :: r).drop (stepL (c :: r)).2) ++ y = Z at *
          have hUne : U ++ Z ≠ [] := by
            intro e0
            have := congrArg List.length e0
            simp only [List.length_append, List.length_nil] at this
            omega
          unfold Lg at ih ⊢
          rw [cntP_go hUne (by rw [h2]; exact hb) (by rw [h2]; exact hx), h2, ← htl, List.drop_left]
          simpa using ih
end Go.Proofs.YtohkocknpmnakaaGreatDoor
/-
  What is printed is read as it was: elements and documents.
-/
namespace Go.Proofs.YtohkocknpmnakaaGreatDoor

theorem escB_lt (c : UInt8) : noLt (escB c) = true := by
  unfold escB
  split
  · next h =>
    unfold noLt
    simp only [List.all_cons, List.all_nil, Bool.and_true, bne_iff_ne]
    rintro rfl
    revert h
    decide
  · unfold eoL
    (repeat' split) <;> first | decide | contradiction
theorem noLt_app (x y : List UInt8) : noLt (x ++ y) = (noLt x && noLt y) := by
  unfold noLt
  rw [List.all_append]
theorem escX_lt : ∀ l : List UInt8, noLt (escX l) = true
  | [] => rfl
  | c :: r => by
    have e : escX (c :: r) = escB c ++ escX r := by simp [escX]
    rw [e, noLt_app, escB_lt, escX_lt r]
    rfl
theorem inn_asc {c : UInt8} (h : innB c = true) : asc c = true := by
  have h' : innZ (c.toNat : Int) = true := h
  simp only [innZ, letZ, goZ, Bool.or_eq_true, decide_eq_true_eq] at h'
  simp only [asc, xmlP, xmlB, Bool.and_eq_true, decide_eq_true_eq]
  constructor
  · omega
  · omega
theorem name_parts {n : List UInt8} (h : nameB n = true) : nmL n = n ∧ n ≠ [] ∧ n.all asc = true ∧ ∃ c r, n = c :: r ∧ c ≠ 47 := by
  cases n with
  | nil => cases h
  | cons c r =>
    have h2 := h
    rw [nameB_eq, Bool.and_eq_true] at h2
    refine ⟨?_, by simp, ?_, c, r, rfl, ?_⟩
    · rw [nm_let h2.1]
      exact (List.takeWhile_prefix _).eq_of_length ((tw_all _ _).2 h2.2)
    · exact List.all_eq_true.2 (fun x hx => inn_asc (List.all_eq_true.1 h2.2 x hx))
    · rintro rfl
      exact absurd h2.1 (by decide)
theorem upto_q {q : UInt8} {v y : List UInt8} (h : v.all (fun c => c != q) = true) : upto q (v ++ q :: y) = v := by
  induction v with
  | nil => simp [upto]
  | cons c r ih =>
    simp only [List.all_cons, Bool.and_eq_true] at h
    have := ih h.2
    unfold upto at this ⊢
    rw [List.cons_append, List.takeWhile_cons_of_pos (p := fun x => x != q) (by exact h.1), this]
def nsN : List UInt8 := [120, 109, 108, 110, 115]
def nsV : List UInt8 := [104, 116, 116, 112, 58, 47, 47, 115, 51, 46, 97, 109, 97, 122, 111, 110, 97, 119, 115, 46, 99, 111, 109, 47, 100, 111, 99, 47, 50, 48, 48, 54, 45, 48, 51, 45, 48, 49, 47]
theorem space_eq (b : List UInt8) : spaceL ++ 62 :: b = 32 :: (nsN ++ 61 :: 34 :: (nsV ++ 34 :: 62 :: b)) := rfl
theorem ats_space (f : Nat) (b : List UInt8) : atsF (f + 2) (spaceL ++ 62 :: b) = some (62 :: b) := by
  rw [space_eq]
  have hnm : nmL (nsN ++ 61 :: 34 :: (nsV ++ 34 :: 62 :: b)) = nsN := nm_stop (by decide) (by decide) (by decide)
  have hs : skp (32 :: (nsN ++ 61 :: 34 :: (nsV ++ 34 :: 62 :: b))) = nsN ++ 61 :: 34 :: (nsV ++ 34 :: 62 :: b) := by
    rw [skp_cons (by decide)]
    exact skp_stop (c := 120) (by decide)
  have ha : atrL (nsN ++ 61 :: 34 :: (nsV ++ 34 :: 62 :: b)) = some (62 :: b) := by
    unfold atrL
    rw [hnm, List.drop_left]
    have hcol : colL (61 :: 34 :: (nsV ++ 34 :: 62 :: b)) = some (61 :: 34 :: (nsV ++ 34 :: 62 :: b)) := by
      unfold colL
      have he : eat [58] (61 :: 34 :: (nsV ++ 34 :: 62 :: b)) = none := by
        unfold eat
        rw [if_neg]
        rw [hasPrefix_iff]
        rintro ⟨x, hx⟩
        injection hx with hx _
        cases hx
      rw [he]
    rw [hcol, Option.bind_some, skp_stop (by decide), eat_cons, Option.bind_some, skp_stop (by decide)]
    have hu : upto 34 (nsV ++ 34 :: 62 :: b) = nsV := upto_q (by decide)
    simp only [quoL, hu]
    rw [if_pos (by simp), if_neg]
    · have e : (nsV ++ 34 :: 62 :: b).drop (nsV.length + 1) = 62 :: b := by
        rw [← List.drop_drop, List.drop_left]
        rfl
      rw [e]
    · rintro (h | h)
      · simp at h
      · revert h
        decide
  rw [ats_go (by rw [hs]; simp) (by rw [hs, hnm]; decide), hs, ha, Option.bind_some]
  exact ats_white f (ws := []) rfl (by decide) (by decide)
theorem att_ats (s : Bool) (b : List UInt8) : ∃ c y, attL s ++ 62 :: b = c :: y ∧ innB c = false ∧ atsF ((c :: y).length + 1) (c :: y) = some (62 :: b) := by
  cases s with
  | false => exact ⟨62, b, rfl, by decide, ats_white _ (ws := []) rfl (by decide) (by decide)⟩
  | true => exact ⟨32, _, rfl, by decide, ats_space _ b⟩
theorem el_head (at' : List UInt8) (t : Nod) (y : List UInt8) : elL at' t ++ y = 60 :: (t.nm ++ (at' ++ 62 :: (escX t.tx ++ (elsL t.ks ++ 60 :: 47 :: (t.nm ++ ([] ++ 62 :: y)))))) := by
  rw [elL_eq]
  simp
theorem okK_mem : ∀ {k : Nat} {ks : List Nod} {t : Nod}, okK k ks = true → t ∈ ks → okK k [t] = true
  | 0, ks, t, h, ht => by
    cases ks with
    | nil => cases ht
    | cons a b => cases h
  | k + 1, ks, t, h, ht => by
    have := List.all_eq_true.1 h t ht
    simp only [okK, List.all_cons, List.all_nil, Bool.and_true]
    exact this
theorem kids_back (k : Nat) (ih : ∀ (t : Nod) (y : List UInt8), okK k [t] = true → elemF une k (elL (attL false) t ++ y) = some (t, y)) : ∀ (ks : List Nod) (f : Nat) (y : List UInt8), okK k ks = true → ks.length < f → (∀ t ∈ ks, nameB t.nm = true) → kidsF (elemF une k) f (elsL ks ++ 60 :: 47 :: y) = some (ks, 60 :: 47 :: y)
  | [], f, y, _, hf, _ => by
    obtain ⟨g, rfl⟩ : ∃ g, f = g + 1 := ⟨f - 1, by simp at hf; omega⟩
    rw [els_nil]
    exact kids_end (elemF une k) g (ws := []) rfl
  | t :: ts, f, y, hk, hf, hn => by
    obtain ⟨g, rfl⟩ : ∃ g, f = g + 1 := ⟨f - 1, by simp at hf; omega⟩
    have h1 := okK_mem hk (List.mem_cons_self ..)
    have hts : okK k ts = true := by
      cases k with
      | zero => cases hk
      | succ k =>
        simp only [okK, List.all_cons, Bool.and_eq_true] at hk ⊢
        exact hk.2
    have hi := kids_back k ih ts g y hts (by simpa using hf) (fun t ht => hn t (by simp [ht]))
    obtain ⟨-, -, -, c, r, hc, hc47⟩ := name_parts (hn t (by simp))
    rw [els_cons, List.append_assoc]
    have hh := el_head [] t (elsL ts ++ 60 :: 47 :: y)
    have he := ih t (elsL ts ++ 60 :: 47 :: y) h1
    have ha : attL false = [] := rfl
    rw [ha] at he
    rw [hc, List.cons_append] at hh
    rw [hh] at he ⊢
    have hkc := kids_cons (elemF une k) g (ws := []) (c := c) (y := r ++ ([] ++ 62 :: (escX t.tx ++ (elsL t.ks ++ 60 :: 47 :: (c :: r ++ ([] ++ 62 :: (elsL ts ++ 60 :: 47 :: y))))))) rfl hc47
    rw [List.nil_append] at hkc
    rw [hkc, he, Option.bind_some, hi]
    rfl
theorem snd_parts {t : Nod} (h : sndB t = true) : nameB t.nm = true ∧ Lg t.tx = true ∧ (t.tx = [] ∨ t.ks = []) := by
  unfold sndB at h
  simp only [Bool.and_eq_true, Bool.or_eq_true, List.isEmpty_iff] at h
  exact ⟨h.1, h.2.1, h.2.2⟩
theorem okK_names : ∀ {k : Nat} {ks : List Nod}, okK k ks = true → ∀ t ∈ ks, nameB t.nm = true
  | 0, ks, h, t, ht => by
    cases ks with
    | nil => cases ht
    | cons a b => cases h
  | k + 1, ks, h, t, ht => by
    have := List.all_eq_true.1 h t ht
    rw [Bool.and_eq_true] at this
    exact (snd_parts this.1).1
/-- An element that is printed is read as it was, whatever follows. -/
theorem elem_back : ∀ (k : Nat) (s : Bool) (t : Nod) (y : List UInt8), okK k [t] = true → elemF une k (elL (attL s) t ++ y) = some (t, y)
  | 0, s, t, y, h => by cases h
  | k + 1, s, t, y, h => by
    simp only [okK, List.all_cons, List.all_nil, Bool.and_true, Bool.and_eq_true] at h
    obtain ⟨hs, hk⟩ := h
    obtain ⟨hn, hl, htk⟩ := snd_parts hs
    obtain ⟨hnm, hn0, -, -⟩ := name_parts hn
    rw [el_head]
    obtain ⟨c, z, he, hc, ha⟩ := att_ats s (escX t.tx ++ (elsL t.ks ++ 60 :: 47 :: (t.nm ++ ([] ++ 62 :: y))))
    rw [he, elem_at k hnm hn0 hc ha]
    by_cases hks : t.ks = []
    · rw [hks, els_nil, List.nil_append, rest_at _ (escX_lt t.tx) (ws := []) rfl, une_escX]
      cases t
      simp only [Nod.ks] at hks
      subst hks
      rfl
    · have htx : t.tx = [] := htk.resolve_right hks
      have he0 : escX t.tx = [] := by rw [htx]; rfl
      rw [he0, List.nil_append]
      obtain ⟨t1, ts, hts⟩ : ∃ t1 ts, t.ks = t1 :: ts := by
        cases h : t.ks with
        | nil => exact absurd h hks
        | cons a b => exact ⟨a, b, rfl⟩
      have hnames := okK_names hk
      have hb : kB (skp (elsL t.ks ++ 60 :: 47 :: (t.nm ++ ([] ++ 62 :: y)))) = true := by
        obtain ⟨-, -, -, c1, r1, hc1, hc47⟩ := name_parts (hnames t1 (by rw [hts]; simp))
        rw [hts, els_cons, List.append_assoc, el_head, hc1, List.cons_append]
        exact kB_white (w := []) rfl hc47
      have hkid : kidsF (elemF une k) ((elsL t.ks ++ 60 :: 47 :: (t.nm ++ ([] ++ 62 :: y))).length + 1) (elsL t.ks ++ 60 :: 47 :: (t.nm ++ ([] ++ 62 :: y))) = (some t.ks).map fun ks => (ks, 60 :: 47 :: (t.nm ++ ([] ++ 62 :: y))) := by
        have hln := els_len t.ks
        exact kids_back k (fun t y h => elem_back k false t y h) t.ks _ _ hk (by rw [List.length_append]; omega) hnames
      rw [rest_kids k hb (ws := []) rfl hkid]
      cases t
      simp only [Nod.tx] at htx
      subst htx
      rfl
theorem lg_els (k : Nat) (ih : ∀ (t : Nod) (y : List UInt8), okK k [t] = true → Lg (elL [] t ++ y) = Lg y) : ∀ (ks : List Nod) (y : List UInt8), (∀ t ∈ ks, okK k [t] = true) → Lg (elsL ks ++ y) = Lg y
  | [], y, _ => by rw [els_nil]; rfl
  | t :: ts, y, h => by
    rw [els_cons, List.append_assoc, ih t _ (h t (by simp)), lg_els k ih ts y (fun t ht => h t (by simp [ht]))]
/-- .. and is legal. -/
theorem lg_el : ∀ (k : Nat) (at' : List UInt8) (t : Nod) (y : List UInt8), at'.all asc = true → okK k [t] = true → Lg (elL at' t ++ y) = Lg y
  | 0, _, t, y, _, h => by cases h
  | k + 1, at', t, y, ha, h => by
    simp only [okK, List.all_cons, List.all_nil, Bool.and_true, Bool.and_eq_true] at h
    obtain ⟨hs, hk⟩ := h
    obtain ⟨hn, hl, -⟩ := snd_parts hs
    obtain ⟨-, -, hna, -⟩ := name_parts hn
    rw [el_head, lg_cons _ (by decide), lg_ascs _ hna, lg_ascs _ ha, lg_cons _ (by decide), lg_escX _ _ _ (Nat.le_refl _) hl,
      lg_els k (fun t y h => lg_el k [] t y rfl h) t.ks _ (fun t' ht => okK_mem hk ht), lg_cons _ (by decide), lg_cons _ (by decide), lg_ascs _ hna, List.nil_append, lg_cons _ (by decide)]
theorem att_asc (s : Bool) : (attL s).all asc = true := by cases s <;> decide
theorem head_asc : headL.all asc = true := by decide
theorem index_end (X : List UInt8) : ∀ p : List UInt8, p.all (fun c => c != 63) = true → Lib.index (p ++ 63 :: 62 :: X) [63, 62] = (p.length : Int)
  | [], _ => by
    rw [List.nil_append]
    unfold Lib.index
    simp [List.isPrefixOf]
  | a :: r, h => by
    simp only [List.all_cons, Bool.and_eq_true] at h
    have ih := index_end X r h.2
    have ha : a ≠ 63 := by simpa using h.1
    rw [List.cons_append]
    unfold Lib.index
    have h1 : [63, 62].isPrefixOf (a :: (r ++ 63 :: 62 :: X)) = false := by simp [List.isPrefixOf, Ne.symm ha]
    rw [h1, ih]
    have : ((r.length : Int) == -1) = false := by rw [beq_eq_false_iff_ne]; omega
    simp [this]
def declP : List UInt8 := [32, 118, 101, 114, 115, 105, 111, 110, 61, 34, 49, 46, 48, 34, 32, 101, 110, 99, 111, 100, 105, 110, 103, 61, 34, 85, 84, 70, 45, 56, 34]
theorem head_eq (X : List UInt8) : headL ++ X = [60, 63, 120, 109, 108] ++ (declP ++ 63 :: 62 :: 10 :: X) := rfl
theorem decl_head (X : List UInt8) : declL (headL ++ X) = some (10 :: X) := by
  have hc : (Lib.cut (declP ++ 63 :: 62 :: 10 :: X) [63, 62]) = (declP, 10 :: X, true) := by
    unfold Lib.cut
    rw [index_end _ _ (by decide)]
    rw [if_pos (by omega)]
    have e : ((declP.length : Int)).toNat = declP.length := by omega
    rw [e, List.take_left, ← List.drop_drop, List.drop_left]
    rfl
  have he : eat [60, 63, 120, 109, 108] (headL ++ X) = some (declP ++ 63 :: 62 :: 10 :: X) := by
    rw [head_eq]
    exact eat_app _ _
  unfold declL
  rw [he]
  have hd : declP ++ 63 :: 62 :: 10 :: X = 32 :: (declP.tail ++ 63 :: 62 :: 10 :: X) := rfl
  rw [hd] at hc ⊢
  simp only [hc]
  rw [if_pos (by decide)]
  rfl
/-- What Print tells is read as it was. -/
theorem doc_back (s : Bool) (t : Nod) (h : okK 16 [t] = true) : prsL (docL s t) = some t := by
  have hlg : (cntP xmlP (docL s t)).isSome = true := by
    show Lg (docL s t) = true
    unfold docL
    have := lg_el 16 (attL s) t [] (att_asc s) h
    rw [List.append_nil] at this
    rw [lg_ascs _ head_asc, this]
    rfl
  unfold prsL
  rw [if_pos hlg]
  unfold docF docL
  rw [decl_head, Option.bind_some]
  have hsk : skp (10 :: elL (attL s) t) = elL (attL s) t := by
    rw [skp_cons (by decide)]
    have := el_head (attL s) t []
    rw [List.append_nil] at this
    rw [this]
    exact skp_stop (by decide)
  have he := elem_back 16 s t [] h
  rw [List.append_nil] at he
  rw [hsk, he, Option.bind_some]
  rfl
end Go.Proofs.YtohkocknpmnakaaGreatDoor
