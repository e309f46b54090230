/-
  Same: of equal elements it is true.
-/
import Derived.Test.YtohkocknpmnakaaGreatDoorTo
namespace Go.Proofs.YtohkocknpmnakaaGreatDoor
open Go.RowKit

def SmQ (h : Nat) : Prop := ∀ (t : Nod) (a b : Option Addr) (c d : Nat) (W : World), Inm h W a t.ks → Inm h W b t.ks → Sml h t.ks → Calls Tryz.prog 11 #[ndV t a c, ndV t b d] W fun e w' => e = .returned (.bool true) ∧ Below W.heap.size W w'

set_option maxRecDepth 20000 in
set_option maxHeartbeats 3200000 in
theorem same_step (h : Nat) (t : Nod) (a b : Option Addr) (c d : Nat) (W : World) (hia : Inm (h + 1) W a t.ks) (hib : Inm (h + 1) W b t.ks) (hlen : t.ks.length ≤ 65536)
    (HT : ∀ t' ∈ t.ks, ∀ a b c d W', Inm h W' a t'.ks → Inm h W' b t'.ks → Calls Tryz.prog 11 #[ndV t' a c, ndV t' b d] W' fun e w' => e = .returned (.bool true) ∧ Below W'.heap.size W' w') :
    Calls Tryz.prog 11 #[ndV t a c, ndV t b d] W fun e w' => e = .returned (.bool true) ∧ Below W.heap.size W w' := by
  obtain ⟨ks, hks⟩ : ∃ ks, ks = t.ks := ⟨_, rfl⟩
  obtain ⟨n, hn⟩ : ∃ n : ByteArray, n = ⟨t.nm.toArray⟩ := ⟨_, rfl⟩
  obtain ⟨x, hx⟩ : ∃ x : ByteArray, x = ⟨t.tx.toArray⟩ := ⟨_, rfl⟩
  unfold ndV
  rw [← hks] at hia hib hlen HT ⊢
  rw [← hn, ← hx]
  have HI : Hid (Inm (h + 1) W a ks ∧ Inm (h + 1) W b ks) := ⟨hia, hib⟩
  have HTQ := (show Hid (∀ j (hj : j < ks.length), ∀ a b c d W', Inm h W' a (ks[j]).ks → Inm h W' b (ks[j]).ks → Calls Tryz.prog 11 #[ndV (ks[j]) a c, ndV (ks[j]) b d] W' fun e w' => e = .returned (.bool true) ∧ Below W'.heap.size W' w') from fun j hj => HT _ (List.getElem_mem hj))
  obtain ⟨w0, hw0⟩ : ∃ w0, w0 = (W.alloc (.cells #[.string n, .string x, .slice a ks.length c] 30)).alloc (.cells #[.string n, .string x, .slice b ks.length d] 30) := ⟨_, rfl⟩
  have H0 : Hid (w0.cell? ⟨W.heap.size, 2, none⟩ = some (.slice a ks.length c) ∧ w0.cell? ⟨W.heap.size + 1, 2, none⟩ = some (.slice b ks.length d) ∧ Below W.heap.size W w0 ∧ w0.heap.size = W.heap.size + 2) := by
    rw [hw0]
    have e1 : (W.alloc (.cells #[.string n, .string x, .slice a ks.length c] 30)).heap.size = W.heap.size + 1 := by show (W.heap.push _).size = _; simp
    have e2 : ((W.alloc (.cells #[.string n, .string x, .slice a ks.length c] 30)).alloc (.cells #[.string n, .string x, .slice b ks.length d] 30)).heap.size = W.heap.size + 2 := by show ((W.heap.push _).push _).size = _; simp
    have h2 := heap_alloc_new (W.alloc (.cells #[.string n, .string x, .slice a ks.length c] 30)) (.cells #[.string n, .string x, .slice b ks.length d] 30)
    rw [e1] at h2
    refine ⟨?_, cell_blk h2 2, ((Below.refl _ _).alloc (Nat.le_refl _) _).alloc (by omega) _, e2⟩
    exact cell_blk ((Below.heap_alloc _ _ _ (by omega)).trans (heap_alloc_new _ _)) 2
  clear hia hib HT hks hn hx
  go_enter Tryz.func11, Tryz.ntmps11
  go_wp2
  rw [← hw0]
  clear hw0
  generalize hq : W.heap.size + 1 = q at H0 ⊢
  obtain ⟨p, hp⟩ : ∃ p, p = W.heap.size := ⟨_, rfl⟩
  have HQ : Hid (q = W.heap.size + 1 ∧ p = W.heap.size) := ⟨hq.symm, hp⟩
  rw [← hp]
  clear hq hp
  go_loopw [5] (fun i wx => ∃ k : Nat, k ≤ ks.length ∧ i = .int .i64 k ∧ Below w0.heap.size w0 wx) (fun i _ => ks.length - (intOf i).toNat)
  case atStart => exact ⟨0, Nat.zero_le _, rfl, Below.refl _ _⟩
  case round =>
    obtain ⟨k, hkl, rfl, hbl⟩ := hrel
    have hz := hbl.size
    have h2 := H0.out.2.2.2
    have e1 := HQ.out.1
    have e2 := HQ.out.2
    have c2 := (hbl.cell (p := ⟨W.heap.size, 2, none⟩) (by show W.heap.size < _; omega)).trans H0.out.1
    have d2 := (hbl.cell (p := ⟨q, 2, none⟩) (by show q < _; omega)).trans H0.out.2.1
    rw [← e2] at c2
    have hB : Below W.heap.size W wr := H0.out.2.2.1.trans (hbl.mono (by omega))
    have HB : Hid (Below w0.heap.size w0 wr ∧ Below W.heap.size W wr) := ⟨hbl, hB⟩
    by_cases hlt : k < ks.length
    · rcases HI.out.1 with hnil | ⟨ba, oa, rfl, -, hba, hca⟩
      · rw [hnil] at hlt
        exact absurd hlt (by simp)
      rcases HI.out.2 with hnil | ⟨bb, ob, rfl, -, hbb, hcb⟩
      · rw [hnil] at hlt
        exact absurd hlt (by simp)
      obtain ⟨ak, ck, a0, a1, a2, hka⟩ := hca k hlt
      obtain ⟨bk, dk, b0, b1, b2, hkb⟩ := hcb k hlt
      have hc : ∀ (g o : Nat) {v : Value}, g < W.heap.size → W.cell? ⟨g, o, none⟩ = some v → wr.cell? ⟨g, o, none⟩ = some v := fun g o v hg hv => (hB.cell (p := ⟨g, o, none⟩) hg).trans hv
      replace a0 := hc _ _ hba a0
      replace a1 := hc _ _ hba a1
      replace a2 := hc _ _ hba a2
      replace b0 := hc _ _ hbb b0
      replace b1 := hc _ _ hbb b1
      replace b2 := hc _ _ hbb b2
      have KT := HTQ.out k hlt ak bk ck dk
      have HKd : Hid (Inm h W ak (ks[k]).ks ∧ Inm h W bk (ks[k]).ks) := ⟨hka, hkb⟩
      obtain ⟨t', ht'⟩ : ∃ t', t' = ks[k] := ⟨_, rfl⟩
      rw [← ht'] at a0 a1 a2 b0 b1 b2 KT HKd
      unfold ndV at KT
      have hi1 : Inm h wr ak t'.ks ∧ Inm h wr bk t'.ks := ⟨HKd.out.1.below hB, HKd.out.2.below hB⟩
      have hi2 : Inm h wr.drew ak t'.ks ∧ Inm h wr.drew bk t'.ks := ⟨HKd.out.1.below hB.drew, HKd.out.2.below hB.drew⟩
      have hkI : (k : Int) < (ks.length : Int) := by omega
      have hk6 : k < 65536 := by omega
      have HC := (show Hid (∀ w', Below wr.heap.size wr w' → w'.cell? ⟨p, 2, none⟩ = some (.slice (some ⟨ba, oa, none⟩) ks.length c) ∧ w'.cell? ⟨q, 2, none⟩ = some (.slice (some ⟨bb, ob, none⟩) ks.length d) ∧ w'.cell? ⟨ba, oa + k * 3, none⟩ = some (.string ⟨t'.nm.toArray⟩) ∧ w'.cell? ⟨ba, oa + k * 3 + 1, none⟩ = some (.string ⟨t'.tx.toArray⟩) ∧ w'.cell? ⟨ba, oa + k * 3 + 2, none⟩ = some (.slice ak t'.ks.length ck) ∧ w'.cell? ⟨bb, ob + k * 3, none⟩ = some (.string ⟨t'.nm.toArray⟩) ∧ w'.cell? ⟨bb, ob + k * 3 + 1, none⟩ = some (.string ⟨t'.tx.toArray⟩) ∧ w'.cell? ⟨bb, ob + k * 3 + 2, none⟩ = some (.slice bk t'.ks.length dk)) from fun w' hh => by
        have hcc : ∀ (g o : Nat) {v : Value}, g < wr.heap.size → wr.cell? ⟨g, o, none⟩ = some v → w'.cell? ⟨g, o, none⟩ = some v := fun g o v hg hv => (hh.cell (p := ⟨g, o, none⟩) hg).trans hv
        exact ⟨hcc _ _ (by omega) c2, hcc _ _ (by omega) d2, hcc _ _ (by omega) a0, hcc _ _ (by omega) a1, hcc _ _ (by omega) a2, hcc _ _ (by omega) b0, hcc _ _ (by omega) b1, hcc _ _ (by omega) b2⟩)
      clear e1 e2 h2 hz hbl hB hc hka hkb ht'
      go_wp2_with fail
      go_region_held3 (fun w' => w'.cell? ⟨p, 2, none⟩ = some (.slice (some ⟨ba, oa, none⟩) ks.length c) ∧ w'.cell? ⟨q, 2, none⟩ = some (.slice (some ⟨bb, ob, none⟩) ks.length d) ∧ w'.cell? ⟨ba, oa + k * 3, none⟩ = some (.string ⟨t'.nm.toArray⟩) ∧ w'.cell? ⟨ba, oa + k * 3 + 1, none⟩ = some (.string ⟨t'.tx.toArray⟩) ∧ w'.cell? ⟨ba, oa + k * 3 + 2, none⟩ = some (.slice ak t'.ks.length ck) ∧ w'.cell? ⟨bb, ob + k * 3, none⟩ = some (.string ⟨t'.nm.toArray⟩) ∧ w'.cell? ⟨bb, ob + k * 3 + 1, none⟩ = some (.string ⟨t'.tx.toArray⟩) ∧ w'.cell? ⟨bb, ob + k * 3 + 2, none⟩ = some (.slice bk t'.ks.length dk)) (first | (exact HC.out _ hs1) | (go_keep))
        (first | (go_at_call 11; (with_reducible refine Calls.mono (KT _ ?_ ?_) ?_); (first | exact hi1.1 | exact hi2.1); (first | exact hi1.2 | exact hi2.2); rintro e w1 ⟨rfl, hb1⟩; have hs1 : Below wr.heap.size wr w1 := (by first | exact hb1 | exact ((Below.refl _ _).drew).trans hb1)))
      have H9 : Hid (Below w0.heap.size w0 w1) := HB.out.1.trans (hs1.mono HB.out.1.size)
      clear hs1 hb1 HC c2 d2 a0 a1 a2 b0 b1 b2
      go_wp2
      exact ⟨⟨k + 1, by omega, by go_num, H9.out⟩, by simp only [intOf]; omega⟩
    · obtain rfl : k = ks.length := by omega
      clear e1 e2 h2 hz hbl hB
      go_wp2
      go_ret
      exact ⟨rfl, HB.out.2⟩

theorem smq_all : ∀ h, SmQ h
  | 0 => fun t a b c d W hk _ _ => by
    have hks : t.ks = [] := hk
    exact same_step 0 t a b c d W (by rw [hks]; exact Kd.nil _ _ _ _) (by rw [hks]; exact Kd.nil _ _ _ _) (by rw [hks]; simp) (fun t' ht => by rw [hks] at ht; cases ht)
  | h + 1 => fun t a b c d W hk hk2 hs => same_step h t a b c d W hk hk2 hs.1 (fun t' ht a b c d W' hi hi2 => smq_all h t' a b c d W' hi hi2 (hs.2 t' ht))
end Go.Proofs.YtohkocknpmnakaaGreatDoor
