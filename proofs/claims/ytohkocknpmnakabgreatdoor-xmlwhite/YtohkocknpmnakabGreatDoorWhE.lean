/-
  The two documents of XmlWhite.
-/
import Derived.Test.YtohkocknpmnakabGreatDoorWhD
namespace Go.Proofs.YtohkocknpmnakabGreatDoor

theorem atr_one (n q v : UInt8) (b : List UInt8) (hn : letB n = true) (hq : q = 34 ∨ q = 39) (hv : v ≠ q) (hv2 : v ≠ 60) (hv3 : v ≠ 38) : atrL (n :: 61 :: q :: v :: q :: 62 :: b) = some (62 :: b) := by
  have h1 : nmL (n :: 61 :: q :: v :: q :: 62 :: b) = [n] := by
    rw [nm_let hn, List.takeWhile_cons_of_pos (let_inn hn), List.takeWhile_cons_of_neg (by decide)]
  unfold atrL
  rw [h1]
  have h2 : colL ((n :: 61 :: q :: v :: q :: 62 :: b).drop [n].length) = some (61 :: q :: v :: q :: 62 :: b) := by
    show colL (61 :: q :: v :: q :: 62 :: b) = _
    unfold colL
    have he : eat [58] (61 :: q :: v :: q :: 62 :: b) = none := by
      unfold eat
      rw [if_neg]
      rw [hasPrefix_iff]
      rintro ⟨x, hx⟩
      injection hx with hx _
      cases hx
    rw [he]
  have hws : wsB q = false := by rcases hq with rfl | rfl <;> decide
  rw [h2, Option.bind_some, skp_stop (by decide), eat_cons, Option.bind_some, skp_stop hws]
  have hu : upto q (v :: q :: 62 :: b) = [v] := by
    unfold upto
    rw [List.takeWhile_cons_of_pos (by simpa using hv), List.takeWhile_cons_of_neg (by simp)]
  simp only [quoL, hq, if_true, hu]
  rw [if_neg (by simp [hv2, hv3])]
  rfl
theorem ats_attr (f : Nat) {w b : List UInt8} {n q v : UInt8} (hw : whB w = true) (hn : letB n = true) (hq : q = 34 ∨ q = 39) (hv : v ≠ q) (hv2 : v ≠ 60) (hv3 : v ≠ 38) : atsF (f + 2) (w ++ 32 :: n :: 61 :: q :: v :: q :: 62 :: b) = some (62 :: b) := by
  have hnw : wsB n = false := by
    cases h : wsB n with
    | false => rfl
    | true =>
      have := (inn_ws (let_inn hn)).1
      rw [this] at h
      cases h
  have hs : skp (w ++ 32 :: n :: 61 :: q :: v :: q :: 62 :: b) = n :: 61 :: q :: v :: q :: 62 :: b := by
    rw [skp_white hw, skp_cons (by decide), skp_stop hnw]
  have hnm : nmL (n :: 61 :: q :: v :: q :: 62 :: b) ≠ [] := by
    rw [nm_let hn, List.takeWhile_cons_of_pos (let_inn hn)]
    simp
  rw [ats_go (by rw [hs]; simp; omega) (by rw [hs]; exact hnm), hs, atr_one n q v b hn hq hv hv2 hv3, Option.bind_some]
  exact ats_white f (ws := []) rfl (by decide) (by decide)
/-- An element with a text and one attribute. -/
theorem elem_attr (k : Nat) {m p ws y : List UInt8} {n q v : UInt8} (hm : nmL m = m) (h0 : m ≠ []) (hn : letB n = true) (hq : q = 34 ∨ q = 39) (hv : v ≠ q) (hv2 : v ≠ 60) (hv3 : v ≠ 38) (hp : noLt p = true) (hw : whB ws = true) : elemF une (k + 1) (60 :: (m ++ 32 :: n :: 61 :: q :: v :: q :: 62 :: (p ++ 60 :: 47 :: (m ++ (ws ++ 62 :: y))))) = (une p).map fun x => (.nd m x [], y) := by
  rw [elem_at k hm h0 (by decide) (ats_attr _ (w := []) rfl hn hq hv hv2 hv3), rest_at _ hp hw]
/-- What both documents hold. -/
def resW (P Q : List UInt8) : Option (List Nod) := (une P).bind fun x => (une Q).map fun y => [.nd [107] x [], .nd [118] y [], .nd [122] [] []]
def t1B (P Q : List UInt8) : List UInt8 := [] ++ 60 :: 107 :: (62 :: (P ++ 60 :: 47 :: ([107] ++ ([] ++ 62 :: ([] ++ 60 :: 118 :: (62 :: (Q ++ 60 :: 47 :: ([118] ++ ([] ++ 62 :: ([] ++ 60 :: 122 :: (62 :: ([] ++ 60 :: 47 :: ([122] ++ ([] ++ 62 :: ([] ++ 60 :: 47 :: ([114] ++ ([] ++ 62 :: [])))))))))))))))))
def t1L (P Q : List UInt8) : List UInt8 := [] ++ 60 :: 114 :: 62 :: t1B P Q
def t2B (w P Q : List UInt8) : List UInt8 := w ++ 60 :: 107 :: (32 :: 121 :: 61 :: 34 :: 50 :: 34 :: 62 :: (P ++ 60 :: 47 :: ([107] ++ (w ++ 62 :: (w ++ 60 :: 118 :: (62 :: (Q ++ 60 :: 47 :: ([118] ++ ([] ++ 62 :: (w ++ 60 :: 122 :: (w ++ 47 :: 62 :: (w ++ 60 :: 47 :: ([114] ++ ([] ++ 62 :: w))))))))))))))
theorem res_kids (P Q y4 : List UInt8) : ((une P).bind fun x => (une Q).map fun y => ([Nod.nd [107] x [], .nd [118] y [], .nd [122] [] []], y4)) = (resW P Q).map fun ks => (ks, y4) := by
  unfold resW
  cases une P with
  | none => rfl
  | some x =>
    cases une Q with
    | none => rfl
    | some y => rfl
theorem une_none : une [] = some [] := rfl
theorem doc_one {P Q : List UInt8} (hP : noLt P = true) (hQ : noLt Q = true) : docF une (t1L P Q) = (resW P Q).map fun ks => .nd [114] [] ks := by
  unfold t1L
  refine doc_at (w0 := []) (ws := []) (w6 := []) rfl (by decide) (ats_white _ (ws := []) rfl (by decide) (by decide)) (kB_white (w := []) rfl (by decide)) rfl rfl ?_
  have e : (t1B P Q).length + 1 = ((t1B P Q).length - 3) + 4 := by
    unfold t1B
    simp only [List.length_append, List.length_cons, List.length_nil]
    omega
  rw [e]
  generalize (t1B P Q).length - 3 = f
  unfold t1B
  have h3 := elem_plain 14 (n := [122]) (p := []) (ws := []) (y := [] ++ 60 :: 47 :: ([114] ++ ([] ++ 62 :: []))) (by decide) (by decide) rfl rfl
  rw [une_none] at h3
  exact (kids_three (elemF une 15) f (w1 := []) (w2 := []) (w3 := []) (w4 := []) (ox := une P) (oy := une Q) (k := [107]) (v := [118]) (z := [122]) rfl rfl rfl rfl (by decide) (by decide) (by decide) (elem_plain 14 (n := [107]) (ws := []) (by decide) (by decide) hP rfl) (elem_plain 14 (n := [118]) (ws := []) (by decide) (by decide) hQ rfl) h3).trans (res_kids P Q _)
theorem doc_two {w P Q : List UInt8} (hw : whB w = true) (hP : noLt P = true) (hQ : noLt Q = true) : docF une (w ++ 60 :: 114 :: (w ++ 32 :: 120 :: 61 :: 39 :: 49 :: 39 :: 62 :: t2B w P Q)) = (resW P Q).map fun ks => .nd [114] [] ks := by
  have hk : kidsF (elemF une 15) ((t2B w P Q).length + 1) (t2B w P Q) = (resW P Q).map fun ks => (ks, 60 :: 47 :: ([114] ++ ([] ++ 62 :: w))) := by
    have e : (t2B w P Q).length + 1 = ((t2B w P Q).length - 3) + 4 := by
      unfold t2B
      simp only [List.length_append, List.length_cons, List.length_nil]
      omega
    rw [e]
    generalize (t2B w P Q).length - 3 = f
    unfold t2B
    exact (kids_three (elemF une 15) f (w1 := w) (w2 := w) (w3 := w) (w4 := w) (ox := une P) (oy := une Q) (k := [107]) (v := [118]) (z := [122]) hw hw hw hw (by decide) (by decide) (by decide) (elem_attr 14 (m := [107]) (ws := w) (n := 121) (q := 34) (v := 50) (by decide) (by decide) (by decide) (.inl rfl) (by decide) (by decide) (by decide) hP hw) (elem_plain 14 (n := [118]) (ws := []) (by decide) (by decide) hQ rfl) (elem_empty 14 (n := [122]) (by decide) (by decide) hw)).trans (res_kids P Q _)
  have hkB : kB (skp (t2B w P Q)) = true := kB_white hw (by decide)
  cases w with
  | nil =>
    refine doc_at (w0 := []) (c := 32) (ws := []) (w6 := []) rfl (by decide) ?_ hkB rfl rfl hk
    exact ats_attr _ (w := []) rfl (by decide) (.inr rfl) (by decide) (by decide) (by decide)
  | cons d r =>
    have hd : wsB d = true := by
      simp only [whB, List.all_cons, Bool.and_eq_true] at hw
      exact hw.1
    have hi : innB d = false := by
      cases h : innB d with
      | false => rfl
      | true => rw [(inn_ws h).1] at hd; cases hd
    refine doc_at (w0 := d :: r) (c := d) (ws := []) (w6 := d :: r) hw hi ?_ hkB rfl hw hk
    exact ats_attr _ (w := d :: r) hw (by decide) (.inr rfl) (by decide) (by decide) (by decide)
end Go.Proofs.YtohkocknpmnakabGreatDoor
