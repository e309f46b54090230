/-
  The documents of XmlWhite: an element with three in it.
-/
import Derived.Test.YtohkocknpmnakabGreatDoorWhM
namespace Go.Proofs.YtohkocknpmnakabGreatDoor

/-- Three elements, one behind the other, white between. -/
theorem kids_three (e : List UInt8 → Option (Nod × List UInt8)) (f : Nat) {w1 w2 w3 w4 y1 y2 y3 y4 : List UInt8} {c1 c2 c3 : UInt8} {ox oy : Option (List UInt8)} {k v z : List UInt8} (hw1 : whB w1 = true) (hw2 : whB w2 = true) (hw3 : whB w3 = true) (hw4 : whB w4 = true) (hc1 : c1 ≠ 47) (hc2 : c2 ≠ 47) (hc3 : c3 ≠ 47)
    (h1 : e (60 :: c1 :: y1) = ox.map fun x => (.nd k x [], w2 ++ 60 :: c2 :: y2)) (h2 : e (60 :: c2 :: y2) = oy.map fun y => (.nd v y [], w3 ++ 60 :: c3 :: y3)) (h3 : e (60 :: c3 :: y3) = some (.nd z [] [], w4 ++ 60 :: 47 :: y4)) :
    kidsF e (f + 4) (w1 ++ 60 :: c1 :: y1) = ox.bind fun x => oy.map fun y => ([.nd k x [], .nd v y [], .nd z [] []], 60 :: 47 :: y4) := by
  rw [kids_cons e (f + 3) hw1 hc1, h1]
  cases ox with
  | none => rfl
  | some x =>
    simp only [Option.map_some, Option.bind_some]
    rw [kids_cons e (f + 2) hw2 hc2, h2]
    cases oy with
    | none => rfl
    | some y =>
      simp only [Option.map_some, Option.bind_some]
      rw [kids_cons e (f + 1) hw3 hc3, h3]
      simp only [Option.bind_some]
      rw [kids_end e f hw4]
      rfl
/-- Behind the attributes: an element with elements in it. -/
theorem rest_kids (k : Nat) {n b ws y : List UInt8} {o : Option (List Nod)} (hb : kB (skp b) = true) (hw : whB ws = true) (hk : kidsF (elemF une k) (b.length + 1) b = o.map fun ks => (ks, 60 :: 47 :: (n ++ (ws ++ 62 :: y)))) : restF une (elemF une k) n (62 :: b) = o.map fun ks => (.nd n [] ks, y) := by
  unfold restF
  have h1 : eat [47, 62] (62 :: b) = none := by
    unfold eat
    rw [if_neg]
    rw [hasPrefix_iff]
    rintro ⟨x, hx⟩
    injection hx with hx _
    cases hx
  rw [h1]
  simp only
  rw [eat_cons, Option.bind_some, cont_kids k hb, hk]
  cases o with
  | none => rfl
  | some ks =>
    simp only [Option.map_some, Option.bind_some]
    rw [close_at hw]
    rfl
theorem kB_white {w y : List UInt8} {c : UInt8} (hw : whB w = true) (hc : c ≠ 47) : kB (skp (w ++ 60 :: c :: y)) = true := by
  rw [skp_white hw, skp_stop (by decide)]
  simpa [kB] using hc
theorem skp_all {w : List UInt8} (h : whB w = true) : skp w = [] := by
  have := skp_white (y := []) h
  rw [List.append_nil] at this
  rw [this]
  rfl
theorem decl_at {w0 y : List UInt8} (h : whB w0 = true) : declL (w0 ++ 60 :: 114 :: y) = some (w0 ++ 60 :: 114 :: y) := by
  have he : eat [60, 63, 120, 109, 108] (w0 ++ 60 :: 114 :: y) = none := by
    unfold eat
    rw [if_neg]
    rw [hasPrefix_iff]
    rintro ⟨x, hx⟩
    cases w0 with
    | nil =>
      injection hx with _ hx
      injection hx with hx _
      cases hx
    | cons c r =>
      simp only [whB, List.all_cons, Bool.and_eq_true] at h
      injection hx with hx _
      rw [hx] at h
      exact absurd h.1 (by decide)
  unfold declL
  rw [he]
/-- A document: an element r with elements in it, white around. -/
theorem doc_at {w0 yA b ws w6 : List UInt8} {c : UInt8} {o : Option (List Nod)} (hw0 : whB w0 = true) (hc : innB c = false) (ha : atsF ((c :: yA).length + 1) (c :: yA) = some (62 :: b)) (hb : kB (skp b) = true) (hws : whB ws = true) (hw6 : whB w6 = true)
    (hk : kidsF (elemF une 15) (b.length + 1) b = o.map fun ks => (ks, 60 :: 47 :: ([114] ++ (ws ++ 62 :: w6)))) : docF une (w0 ++ 60 :: 114 :: c :: yA) = o.map fun ks => .nd [114] [] ks := by
  unfold docF
  rw [decl_at hw0, Option.bind_some, skp_white hw0, skp_stop (by decide)]
  rw [show 60 :: 114 :: c :: yA = 60 :: ([114] ++ c :: yA) from rfl, elem_at 15 (n := [114]) (by decide) (by decide) hc ha, rest_kids 15 hb hws hk]
  cases o with
  | none => rfl
  | some ks =>
    simp only [Option.map_some, Option.bind_some, skp_all hw6, if_true]
end Go.Proofs.YtohkocknpmnakabGreatDoor
