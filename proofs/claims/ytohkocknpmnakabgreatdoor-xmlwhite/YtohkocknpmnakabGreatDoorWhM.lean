/-
  The mathematics of elements that hold a text: however they are written.
-/
import Derived.Test.YtohkocknpmnakabGreatDoorWhP
namespace Go.Proofs.YtohkocknpmnakabGreatDoor

/-- White alone. -/
def whB (l : List UInt8) : Bool := l.all wsB
theorem skp_white {x y : List UInt8} (h : whB x = true) : skp (x ++ y) = skp y := by
  induction x with
  | nil => rfl
  | cons c r ih =>
    simp only [whB, List.all_cons, Bool.and_eq_true] at h
    rw [List.cons_append, skp_cons h.1]
    exact ih h.2
/-- No sign '<' in it. -/
def noLt (l : List UInt8) : Bool := l.all (fun c => c != 60)
theorem upto_text {p y : List UInt8} (h : noLt p = true) : upto 60 (p ++ 60 :: y) = p := by
  induction p with
  | nil => simp [upto]
  | cons c r ih =>
    simp only [noLt, List.all_cons, Bool.and_eq_true] at h
    have := ih h.2
    unfold upto at this ⊢
    rw [List.cons_append, List.takeWhile_cons_of_pos (p := fun x => x != 60) (by exact h.1), this]
/-- A name, and then something that is none of it. -/
theorem nm_stop {n y : List UInt8} {c : UInt8} (hn : nmL n = n) (h0 : n ≠ []) (hc : innB c = false) : nmL (n ++ c :: y) = n := by
  rw [nm_app hn h0, List.takeWhile_cons_of_neg (by rw [hc]; decide), List.append_nil]
theorem eat_app (x y : List UInt8) : eat x (x ++ y) = some y := by
  unfold eat
  rw [if_pos ((hasPrefix_iff _ _).2 ⟨y, rfl⟩), List.drop_left]
theorem eat_cons (c : UInt8) (y : List UInt8) : eat [c] (c :: y) = some y := eat_app [c] y
theorem close_at {n ws y : List UInt8} (hw : whB ws = true) : closeL n (60 :: 47 :: (n ++ (ws ++ 62 :: y))) = some y := by
  unfold closeL
  have h1 : eat [60, 47] (60 :: 47 :: (n ++ (ws ++ 62 :: y))) = some (n ++ (ws ++ 62 :: y)) := eat_app [60, 47] _
  rw [h1, Option.bind_some, eat_app, Option.bind_some, skp_white hw, skp_stop (by decide), eat_cons]
/-- The content of an element that holds a text. -/
theorem cont_at (e : List UInt8 → Option (Nod × List UInt8)) {p y : List UInt8} (hp : noLt p = true) : contF une e (p ++ 60 :: 47 :: y) = (une p).map fun x => (x, [], 60 :: 47 :: y) := by
  have hu := upto_text (y := 47 :: y) hp
  unfold contF
  rw [hu, if_neg (by simp), if_pos]
  · rw [List.drop_left]
  · rw [← List.drop_drop, List.drop_left]
    exact (hasPrefix_iff _ _).2 ⟨y, rfl⟩
/-- Behind the attributes: an element with a text. -/
theorem rest_at (e : List UInt8 → Option (Nod × List UInt8)) {n p ws y : List UInt8} (hp : noLt p = true) (hw : whB ws = true) : restF une e n (62 :: (p ++ 60 :: 47 :: (n ++ (ws ++ 62 :: y)))) = (une p).map fun x => (.nd n x [], y) := by
  unfold restF
  have h1 : eat [47, 62] (62 :: (p ++ 60 :: 47 :: (n ++ (ws ++ 62 :: y)))) = none := by
    unfold eat
    rw [if_neg]
    rw [hasPrefix_iff]
    rintro ⟨x, hx⟩
    injection hx with hx _
    cases hx
  rw [h1]
  simp only
  rw [eat_cons, Option.bind_some, cont_at e hp]
  cases une p with
  | none => rfl
  | some x =>
    simp only [Option.map_some, Option.bind_some]
    rw [close_at hw]
    rfl
/-- Behind the attributes: an element that ends at once. -/
theorem rest_end (e : List UInt8 → Option (Nod × List UInt8)) {n y : List UInt8} : restF une e n (47 :: 62 :: y) = some (.nd n [] [], y) := by
  unfold restF
  have h1 : eat [47, 62] (47 :: 62 :: y) = some y := eat_app [47, 62] y
  rw [h1]
/-- An element: its name, what stands in its tag, the rest. -/
theorem elem_at (k : Nat) {n y r : List UInt8} {c : UInt8} (hn : nmL n = n) (h0 : n ≠ []) (hc : innB c = false) (ha : atsF ((c :: y).length + 1) (c :: y) = some r) : elemF une (k + 1) (60 :: (n ++ c :: y)) = restF une (elemF une k) n r := by
  have hnm : nmL (n ++ c :: y) = n := nm_stop hn h0 hc
  rw [elemF_eq, eat_cons, Option.bind_some, hnm, if_neg h0, List.drop_left, ha, Option.bind_some]
/-- No attributes, perhaps white. -/
theorem ats_white (f : Nat) {ws y : List UInt8} {c : UInt8} (hw : whB ws = true) (hc : wsB c = false) (hl : letB c = false) : atsF (f + 1) (ws ++ c :: y) = some (c :: y) := by
  have hs : skp (ws ++ c :: y) = c :: y := by rw [skp_white hw, skp_stop hc]
  rw [ats_stop (by rw [hs]; exact nm_no hl), hs]
theorem kids_end (e : List UInt8 → Option (Nod × List UInt8)) (f : Nat) {ws y : List UInt8} (hw : whB ws = true) : kidsF e (f + 1) (ws ++ 60 :: 47 :: y) = some ([], 60 :: 47 :: y) := by
  have hs : skp (ws ++ 60 :: 47 :: y) = 60 :: 47 :: y := by rw [skp_white hw, skp_stop (by decide)]
  simp only [kidsF, hs]
  rw [if_pos (show Lib.hasPrefix (60 :: 47 :: y) [60, 47] = true from (hasPrefix_iff _ _).2 ⟨y, rfl⟩)]
theorem kids_cons (e : List UInt8 → Option (Nod × List UInt8)) (f : Nat) {ws y : List UInt8} {c : UInt8} (hw : whB ws = true) (hc : c ≠ 47) : kidsF e (f + 1) (ws ++ 60 :: c :: y) = (e (60 :: c :: y)).bind fun p => (kidsF e f p.2).map fun q => (p.1 :: q.1, q.2) := by
  have hs : skp (ws ++ 60 :: c :: y) = 60 :: c :: y := by rw [skp_white hw, skp_stop (by decide)]
  simp only [kidsF, hs]
  rw [if_neg]
  rw [hasPrefix_iff]
  rintro ⟨x, hx⟩
  injection hx with _ hx
  injection hx with hx _
  exact hc hx
/-- An element with a text and no attributes. -/
theorem elem_plain (k : Nat) {n p ws y : List UInt8} (hn : nmL n = n) (h0 : n ≠ []) (hp : noLt p = true) (hw : whB ws = true) : elemF une (k + 1) (60 :: (n ++ 62 :: (p ++ 60 :: 47 :: (n ++ (ws ++ 62 :: y))))) = (une p).map fun x => (.nd n x [], y) := by
  rw [elem_at k hn h0 (by decide) (ats_white _ (ws := []) rfl (by decide) (by decide)), rest_at _ hp hw]
/-- An element that ends at once. -/
theorem elem_empty (k : Nat) {n ws y : List UInt8} (hn : nmL n = n) (h0 : n ≠ []) (hw : whB ws = true) : elemF une (k + 1) (60 :: (n ++ (ws ++ 47 :: 62 :: y))) = some (.nd n [] [], y) := by
  cases ws with
  | nil => rw [List.nil_append, elem_at k hn h0 (by decide) (ats_white _ (ws := []) rfl (by decide) (by decide)), rest_end]
  | cons c r =>
    have hc : wsB c = true := by
      simp only [whB, List.all_cons, Bool.and_eq_true] at hw
      exact hw.1
    have hi : innB c = false := by
      cases h : innB c with
      | false => rfl
      | true => rw [(inn_ws h).1] at hc; cases hc
    have ha : atsF ((c :: (r ++ 47 :: 62 :: y)).length + 1) (c :: (r ++ 47 :: 62 :: y)) = some (47 :: 62 :: y) := ats_white _ (ws := c :: r) (c := 47) hw (by decide) (by decide)
    rw [List.cons_append, elem_at k hn h0 hi ha, rest_end]
end Go.Proofs.YtohkocknpmnakabGreatDoor
