/-
  A tree with few keys is one leaf; the levels of a tree are not too long.
-/
import Derived.Test.YtpophalhmjchkaaLevels
namespace Go.Proofs.Ytpophalhmjchkaa

theorem Row.each {V : Option ByteArray → Option ByteArray → T → Prop} : ∀ {bs : List ByteArray} {cs : List T} {lo hi : Option ByteArray}, Row V lo bs cs hi → ∀ c ∈ cs, ∃ l r, V l r c
  | [], [c], lo, hi, h => by
    intro d hd
    simp only [List.mem_singleton] at hd
    subst hd
    exact ⟨lo, hi, h⟩
  | b :: bs, c :: cs, lo, hi, h => by
    intro d hd
    rcases List.mem_cons.1 hd with rfl | hd
    · exact ⟨_, _, h.1⟩
    · exact Row.each h.2 d hd
  | [], [], _, _, h => h.elim
  | _ :: _, [], _, _, h => h.elim
  | [], _ :: _ :: _, _, _, h => h.elim
theorem val_min : ∀ {h : Nat} {lo hi : Option ByteArray} {t : T}, Val h lo hi t → 4 ≤ t.sz → 4 ≤ (toL h t).length
  | 0, _, _, .leaf _, _, h4 => h4
  | h + 1, _, _, .inner bs (c :: cs), hv, _ => by
    obtain ⟨l, r, hc⟩ := hv.1.each c List.mem_cons_self
    have := val_min hc (hv.2 c List.mem_cons_self).1
    show 4 ≤ ((c :: cs).flatMap (toL h)).length
    rw [List.flatMap_cons, List.length_append]
    omega
  | _ + 1, _, _, .inner _ [], _, h4 => by have : 4 ≤ ([] : List T).length := h4; simp at this
  | 0, _, _, .inner _ _, hv, _ => hv.elim
  | _ + 1, _, _, .leaf _, hv, _ => hv.elim
theorem whole_min {h : Nat} {t : T} (hw : Whole (h + 1) t) : 8 ≤ (toL (h + 1) t).length := by
  match t, hw.val, hw.min with
  | .inner bs (c :: d :: cs), hv, _ =>
    obtain ⟨l, r, hc⟩ := hv.1.each c List.mem_cons_self
    obtain ⟨l2, r2, hd⟩ := hv.1.each d (List.mem_cons_of_mem _ List.mem_cons_self)
    have h1 := val_min hc (hv.2 c List.mem_cons_self).1
    have h2 := val_min hd (hv.2 d (List.mem_cons_of_mem _ List.mem_cons_self)).1
    show 8 ≤ ((c :: d :: cs).flatMap (toL h)).length
    rw [List.flatMap_cons, List.flatMap_cons, List.length_append, List.length_append]
    omega
  | .inner bs [_], _, hm => rcases hm with hm | hm; omega; (have : 2 ≤ 1 := hm); omega
  | .inner bs [], _, hm => rcases hm with hm | hm; omega; (have : 2 ≤ 0 := hm); omega
  | .leaf _, hv, _ => exact hv.elim
theorem whole_leaf {h : Nat} {t : T} (hw : Whole h t) (hl : (toL h t).length < 8) : h = 0 ∧ t = .leaf (toL h t) := by
  match h, t, hw, hl with
  | 0, .leaf ps, _, _ => exact ⟨rfl, rfl⟩
  | 0, .inner _ _, hw, _ => exact hw.val.elim
  | h + 1, t, hw, hl => have := whole_min hw; omega
end Go.Proofs.Ytpophalhmjchkaa
