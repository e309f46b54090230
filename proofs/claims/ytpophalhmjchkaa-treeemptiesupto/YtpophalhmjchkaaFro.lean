/-
  The pairs from a key on, leaf by leaf.
-/
import Derived.Test.YtpophalhmjchkaaLeast
namespace Go.Proofs.Ytpophalhmjchkaa

/-- The pairs whose keys are not below k. -/
def fromL (k : ByteArray) (L : List KV) : List KV := L.filter fun p => !decide (klt p.1 k)
/-- The leaves from the one where k belongs on. -/
def lvsOf (k : ByteArray) : Nat → T → List (List KV)
  | 0, .leaf ps => [ps]
  | h + 1, .inner bs cs => (cs.drop (pl bs k)).flatMap (lvsOf k h)
  | _, _ => []
theorem drop_from {k : ByteArray} : ∀ {ps : List KV}, Srt ps → ps.drop (lbS (keysP ps) k) = fromL k ps
  | [], _ => rfl
  | p :: r, hs => by
    obtain ⟨h1, h2⟩ := List.pairwise_cons.1 hs
    have ek : keysP (p :: r) = p.1 :: keysP r := rfl
    rw [ek, lbS]
    by_cases hp : klt p.1 k
    · rw [if_pos hp, List.drop_succ_cons, drop_from h2]
      simp [fromL, hp]
    · rw [if_neg hp, List.drop_zero]
      refine (List.filter_eq_self.2 fun q hq => ?_).symm
      have : ¬ klt q.1 k := by
        rcases List.mem_cons.1 hq with rfl | hq
        · exact hp
        · exact fun h3 => hp (klt_trans (h1 q hq) h3)
      simp [this]
theorem from_none {k : ByteArray} {L : List KV} (h : ∀ p ∈ L, klt p.1 k) : fromL k L = [] := List.filter_eq_nil_iff.2 fun p hp => by simp [h p hp]
theorem from_flat (k : ByteArray) (h : Nat) (cs : List T) : fromL k (cs.flatMap (toL h)) = cs.flatMap fun c => fromL k (toL h c) := by
  rw [fromL, List.filter_flatMap]; rfl
theorem row_low {h : Nat} {k : ByteArray} : ∀ {bs : List ByteArray} {cs : List T} {lo hi : Option ByteArray}, Row (Val h) lo bs cs hi → ∀ c ∈ cs.take (pl bs k), ∀ p ∈ toL h c, klt p.1 k
  | [], [_], _, _, _ => by simp [pl]
  | b :: bs, c :: cs, lo, hi, hr => by
    rw [pl]
    by_cases hk : klt k b
    · simp [hk]
    · rw [if_neg hk, List.take_succ_cons]
      intro x hx p hp
      rcases List.mem_cons.1 hx with rfl | hx
      · exact klt_of_lt_le ((hr.1.list.2 p hp).2 b rfl) hk
      · exact row_low hr.2 x hx p hp
  | [], [], _, _, hr => hr.elim
  | [], _ :: _ :: _, _, _, hr => hr.elim
  | _ :: _, [], _, _, hr => hr.elim
theorem lvs_from {k : ByteArray} : ∀ {h : Nat} {lo hi : Option ByteArray} {t : T}, Val h lo hi t → (lvsOf k h t).flatMap (fromL k) = fromL k (toL h t)
  | 0, _, _, .leaf ps, _ => by simp [lvsOf, toL]
  | h + 1, _, _, .inner bs cs, hv => by
    show ((cs.drop (pl bs k)).flatMap (lvsOf k h)).flatMap (fromL k) = fromL k (cs.flatMap (toL h))
    rw [from_flat, List.flatMap_assoc]
    conv => rhs; rw [← List.take_append_drop (pl bs k) cs, List.flatMap_append]
    have h0 : (cs.take (pl bs k)).flatMap (fun c => fromL k (toL h c)) = [] := List.flatMap_eq_nil_iff.2 fun c hc => from_none (row_low hv.1 c hc)
    rw [h0, List.nil_append]
    have h1 : ∀ c ∈ cs.drop (pl bs k), (lvsOf k h c).flatMap (fromL k) = fromL k (toL h c) := fun c hc => by
      obtain ⟨l, r, hc2⟩ := hv.1.each c (List.mem_of_mem_drop hc)
      exact lvs_from hc2
    generalize cs.drop (pl bs k) = ds at h1
    induction ds with
    | nil => rfl
    | cons d ds ih => rw [List.flatMap_cons, List.flatMap_cons, h1 d List.mem_cons_self, ih fun c hc => h1 c (List.mem_cons_of_mem _ hc)]
  | 0, _, _, .inner _ _, hv => hv.elim
  | _ + 1, _, _, .leaf _, hv => hv.elim
theorem lvs_ok {k : ByteArray} : ∀ {h : Nat} {lo hi : Option ByteArray} {t : T}, Val h lo hi t → t.sz ≤ 8 → ∀ ps ∈ lvsOf k h t, Srt ps ∧ ps.length ≤ 8
  | 0, _, _, .leaf ps, hv, hz => by
    intro x hx
    simp only [lvsOf, List.mem_singleton] at hx
    subst hx
    exact ⟨hv.2.1, hz⟩
  | h + 1, _, _, .inner bs cs, hv, _ => by
    intro x hx
    simp only [lvsOf, List.mem_flatMap] at hx
    obtain ⟨c, hc, hx⟩ := hx
    obtain ⟨l, r, hc2⟩ := hv.1.each c (List.mem_of_mem_drop hc)
    exact lvs_ok hc2 (hv.2 c (List.mem_of_mem_drop hc)).2 x hx
  | 0, _, _, .inner _ _, hv, _ => hv.elim
  | _ + 1, _, _, .leaf _, hv, _ => hv.elim
/-- Lists by their places. -/
theorem range_drop {α β : Type} {X : Nat → List α} {f : α → β} {g : T → List β} {cs : List T} (hX : ∀ j (h : j < cs.length), (X j).map f = g cs[j]) : ∀ {m i : Nat}, i + m = cs.length → ((List.range' i m).flatMap X).map f = (cs.drop i).flatMap g
  | 0, i, h => by rw [List.drop_eq_nil_of_le (by omega)]; rfl
  | m + 1, i, h => by
    rw [List.range'_succ, List.flatMap_cons, List.map_append, hX i (by omega), List.drop_eq_getElem_cons (by omega), List.flatMap_cons, range_drop hX (by omega)]
theorem from_srt {k : ByteArray} {L : List KV} (h : Srt L) : Srt (fromL k L) := List.Pairwise.filter _ h
theorem klt_nil (k : ByteArray) : ¬ klt k ⟨#[]⟩ := by
  show ¬ (k.toList < (⟨#[]⟩ : ByteArray).toList)
  rw [ByteArray.toList_eq (⟨#[]⟩ : ByteArray)]
  exact List.not_lt_nil _
theorem from_all (L : List KV) : fromL ⟨#[]⟩ L = L := List.filter_eq_self.2 fun p _ => by simp [klt_nil]
end Go.Proofs.Ytpophalhmjchkaa
