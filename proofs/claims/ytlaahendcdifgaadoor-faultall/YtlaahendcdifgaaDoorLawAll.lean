/-
  The law FaultAll.
-/
import Derived.Test.YtlaahendcdifgaaDoorClass
namespace Go.Proofs.YtlaahendcdifgaaDoor
open Go.RowKit

theorem nmK_apart : ∀ k < 42, ∀ j < k, nmK j ≠ nmK k := by decide +kernel
theorem of_back {k : Nat} (h : k < 42) : ofV (nmK k) = (300 + (k : Int), true) := ofV_hit h rfl (nmK_apart k h)
theorem dev_back {k : Nat} (h : k < 42) : devV (300 + (k : Int)) = 300 + (k : Int) := by
  unfold devV
  rw [if_neg (by omega), if_neg (by omega), nmF_yes (isN_of h)]
theorem allC_get {k : Nat} (h : k < 42) : (allC 42)[k]? = some (.int .i64 (300 + (k : Int))) := by
  simp [allC, h]
/-- A row of numbers of one's own: where it lies. -/
theorem all_at {w : World} {base : Nat} {v : Value} (h : w.ownsRow base 22 1 v 42 (allC 42)) : ∃ g c, v = .slice (some ⟨g, 0, none⟩) 42 c ∧ base ≤ g ∧ g < w.heap.size ∧ (∀ k < 42, w.cell? ⟨g, k, none⟩ = some (.int .i64 (300 + (k : Int)))) ∧ ∃ cur : Array Value, w.heap[g]? = some (.cells cur 22) ∧ 42 ≤ cur.size := by
  have h0 := h
  obtain ⟨hx, ⟨h1, h2⟩ | ⟨g, cap, cur, h1, h2, h3, h4, h5, h6, h7⟩⟩ := h
  · omega
  · subst h1
    refine ⟨g, cap, rfl, h2, heap_lt h3, fun k hk => ?_, cur, h3, by omega⟩
    rw [h0.cellAt k (by simp [hk])]
    exact allC_get hk

set_option maxRecDepth 20000 in
set_option maxHeartbeats 3200000 in
theorem faultAll_walk (ch : Int) (w : World) (hg : Et w) :
    Calls Tryd.prog 4 #[.int .i64 ch] w fun e w' => e = .returned (.bool true) ∧ Below w.heap.size w w' := by
  have KA := (show Hid (∀ W, Calls Tryd.prog 18 #[] W fun e w' => ∃ g c, e = .returned (.slice (some ⟨g, 0, none⟩) 42 c) ∧ W.heap.size ≤ g ∧ g < w'.heap.size ∧ (∀ k < 42, w'.cell? ⟨g, k, none⟩ = some (.int .i64 (300 + (k : Int)))) ∧ (∃ cur : Array Value, w'.heap[g]? = some (.cells cur 22) ∧ 42 ≤ cur.size) ∧ Below W.heap.size W w') from fun W => (all_any W).mono (by
    rintro e w' ⟨v, rfl, ho, hb⟩
    obtain ⟨g, c, rfl, h1, h2, h3, h4⟩ := all_at ho
    exact ⟨g, c, rfl, h1, h2, h3, h4, hb⟩))
  have K7 := (show Hid (∀ k : Nat, k < 42 → ∀ W, Below w.heap.size w W → Calls Tryd.prog 7 #[.int .i64 (300 + (k : Int))] W fun r w' => r = .returned (.string (nmK k)) ∧ Below W.heap.size W w') from fun k hk W hW => by
    have h := name_any (300 + (k : Int)) W (hg.below hW)
    rw [nameV_K hk] at h
    exact h)
  have K5 := (show Hid (∀ k : Nat, k < 42 → ∀ W, Below w.heap.size w W → Calls Tryd.prog 5 #[.string (nmK k)] W fun r w' => r = .returned (.tuple #[.int .i64 (300 + (k : Int)), .bool true]) ∧ Below W.heap.size W w') from fun k hk W hW => by
    have h := of_any (nmK k) W (hg.below hW)
    rw [of_back hk] at h
    exact h)
  have K11 := (show Hid (∀ k : Nat, k < 42 → ∀ W, Below w.heap.size w W → Calls Tryd.prog 11 #[.int .i64 (300 + (k : Int))] W fun r w' => r = .returned (.int .i64 (300 + (k : Int))) ∧ Below W.heap.size W w') from fun k hk W hW => by
    have h := dev_any (300 + (k : Int)) W (hg.below hW)
    rw [dev_back hk] at h
    exact h)
  have K17 := (show Hid (∀ W, Below w.heap.size w W → Calls Tryd.prog 17 #[] W fun e w' => e = .returned (.bool true) ∧ Below W.heap.size W w') from fun W hW => awake_any W (hg.below hW))
  clear hg
  go_enter Tryd.func4, Tryd.ntmps4
  go_wp2_with fail
  refine (KA.out _).mono ?_
  rintro e w1 ⟨g, c, rfl, hg1, hg2, hc, hcur, hb1⟩
  have H1 : Hid (Below w.heap.size w w1 ∧ (∀ k < 42, w1.cell? ⟨g, k, none⟩ = some (.int .i64 (300 + (k : Int)))) ∧ (∃ cur : Array Value, w1.heap[g]? = some (.cells cur 22) ∧ 42 ≤ cur.size)) := ⟨hb1, hc, hcur⟩
  clear hc hcur hb1
  go_wp2
  go_loopw [4] (fun i wx => ∃ k : Nat, k ≤ 42 ∧ i = .int .i64 k ∧ Below w1.heap.size w1 wx) (fun i _ => 42 - (intOf i).toNat)
  case atStart => exact ⟨0, by omega, rfl, Below.refl _ _⟩
  case round =>
    obtain ⟨k, hk, rfl, hb⟩ := hrel
    have hz := hb.size
    have HB : Hid (Below w1.heap.size w1 wr ∧ Below w.heap.size w wr) := ⟨hb, H1.out.1.trans (hb.mono H1.out.1.size)⟩
    by_cases hlt : k < 42
    · have HC := (show Hid (∀ w', Below wr.heap.size wr w' → ∀ j < 42, w'.cell? ⟨g, j, none⟩ = some (.int .i64 (300 + (j : Int)))) from fun w' h j hj => (h.cell (p := ⟨g, j, none⟩) (by show g < _; omega)).trans ((hb.cell (p := ⟨g, j, none⟩) hg2).trans (H1.out.2.1 j hj)))
      have k7 := K7.out k hlt
      have k5 := K5.out k hlt
      have k11 := K11.out k hlt
      generalize nmK k = nm at *
      have c0 := HC.out wr (Below.refl _ _) k hlt
      clear hb
      go_wp2_with fail
      refine (k7 _ HB.out.2).mono ?_
      rintro e w2 ⟨rfl, hb2⟩
      have HB2 : Hid (Below wr.heap.size wr w2 ∧ Below w.heap.size w w2) := ⟨hb2, HB.out.2.trans (hb2.mono HB.out.2.size)⟩
      clear hb2
      go_wp2_with fail
      refine (k5 _ HB2.out.2).mono ?_
      rintro e w3 ⟨rfl, hb3⟩
      have HB3 : Hid (Below wr.heap.size wr w3 ∧ Below w.heap.size w w3) := ⟨HB2.out.1.trans (hb3.mono HB2.out.1.size), HB2.out.2.trans (hb3.mono HB2.out.2.size)⟩
      clear hb3 c0
      have c0 := HC.out w3 HB3.out.1 k hlt
      go_wp2_with fail
      have k11' := (show Hid (∀ W, Below w.heap.size w W → Calls Tryd.prog 11 #[.int .i64 (300 + (k : Int))] W fun r w' => r = .returned (.int .i64 (300 + (k : Int))) ∧ Below W.heap.size W w') from k11)
      have HW := (show Hid (∀ n : Above wr wr.heap.size, Below w.heap.size w n.val) from fun n => HB.out.2.trans (n.ok.mono HB.out.2.size))
      clear k11 k7 k5 c0
      have hck : ∀ n : Above wr wr.heap.size, n.val.cell? ⟨g, k, none⟩ = some (.int .i64 (300 + (k : Int))) := fun n => HC.out _ n.ok k hlt
      rcases Nat.eq_zero_or_pos k with h0 | h0
      · have hgN : decide (0 < k) = false := decide_eq_false (by omega)
        have H0 : Hid (k = 0) := h0
        clear h0
        refine wp_region_above wr wr.heap.size (by kernel_rfl) (by kernel_rfl) HB3.out.1 ?_
        repeat (go_big_quiet_step ((go_at_call 11; with_reducible exact above_below (k11'.out _ (HW.out _)))))
        refine wpQuiet_nil ?_
        rintro w4 ⟨⟨_, hb4⟩, rfl⟩
        have H9 : Hid (Below w1.heap.size w1 w4) := HB.out.1.trans (hb4.mono HB.out.1.size)
        have H7 : Hid (k ≤ 41) := by show k ≤ 41; omega
        clear hb4 hgN hck hlt hk
        go_wp2
        have h7 := H7.out
        exact ⟨⟨k + 1, by omega, int_eq (by omega), H9.out⟩, by simp only [intOf]; omega⟩
      · obtain ⟨j, hj⟩ : ∃ j, j = k - 1 := ⟨_, rfl⟩
        have hjk : j < 42 := by omega
        have hgN : decide (0 < k) = true := decide_eq_true (by omega)
        have hwj : IntKind.i64.wrap ((k : Int) - 1) = (k : Int) - 1 := by rw [IntKind.wrap_i64]; omega
        have hle : decide (300 + (k : Int) ≤ 300 + (j : Int)) = false := decide_eq_false (by omega)
        have hleN : decide (k ≤ j) = false := decide_eq_false (by omega)
        have hi0 : (0 : Int) ≤ (k : Int) - 1 := by omega
        have hi1 : (k : Int) - 1 < 42 := by omega
        have htn : ((k : Int) - 1).toNat = j := by omega
        have HJ : Hid (j = k - 1) := hj
        clear hj
        have hcj : ∀ n : Above wr wr.heap.size, n.val.cell? ⟨g, j, none⟩ = some (.int .i64 (300 + (j : Int))) := fun n => HC.out _ n.ok j hjk
        refine wp_region_above wr wr.heap.size (by kernel_rfl) (by kernel_rfl) HB3.out.1 ?_
        repeat (go_big_quiet_step ((go_at_call 11; with_reducible exact above_below (k11'.out _ (HW.out _)))))
        refine wpQuiet_nil ?_
        rintro w4 ⟨⟨_, hb4⟩, rfl⟩
        have H9 : Hid (Below w1.heap.size w1 w4) := HB.out.1.trans (hb4.mono HB.out.1.size)
        have H7 : Hid (k ≤ 41) := by show k ≤ 41; omega
        clear hb4 hgN hck hlt hk hle hleN hi0 hi1 htn hwj hcj hjk
        go_wp2
        have h7 := H7.out
        exact ⟨⟨k + 1, by omega, int_eq (by omega), H9.out⟩, by simp only [intOf]; omega⟩
    · obtain rfl : k = 42 := by omega
      have HR : Hid ((∃ cur : Array Value, wr.heap[g]? = some (.cells cur 22) ∧ 42 ≤ cur.size) ∧ Below w.heap.size w wr) := by
        obtain ⟨cur, h1, h2⟩ := H1.out.2.2
        exact ⟨⟨cur, (hb.block g hg2).trans h1, h2⟩, HB.out.2⟩
      clear hb
      go_wp2
      go_loopw [7] (fun i wx => ∃ k : Nat, k ≤ 42 ∧ i = .int .i64 k ∧ (∃ cur : Array Value, wx.heap[g]? = some (.cells cur 22) ∧ 42 ≤ cur.size) ∧ Below w.heap.size w wx) (fun i _ => 42 - (intOf i).toNat)
      case atStart => exact ⟨0, by omega, rfl, HR.out.1, HR.out.2⟩
      case round =>
        rename World => wv
        obtain ⟨k, hk, rfl, ⟨cur, hcur, hcs⟩, hb⟩ := hrel
        by_cases hlt : k < 42
        · obtain ⟨old, hc0⟩ : ∃ old, wv.cell? ⟨g, k, none⟩ = some old := ⟨cur[k]'(by omega), by rw [cell_blk hcur]; simp [show k < cur.size by omega]⟩
          have hf0 : wv.frozen? ⟨g, k, none⟩ = false := by simp [World.frozen?, hcur]
          have HN : Hid ((∃ cu : Array Value, (wv.setCell ⟨g, k, none⟩ (.int .i64 ch)).heap[g]? = some (.cells cu 22) ∧ 42 ≤ cu.size) ∧ Below w.heap.size w (wv.setCell ⟨g, k, none⟩ (.int .i64 ch))) := by
            refine ⟨⟨cur.setIfInBounds k (.int .i64 ch), ?_, by simpa using hcs⟩, hb.setCell hg1 _⟩
            simp [World.setCell, Array.getElem?_modify, hcur]
          clear hcur hcs hb
          go_wp2
          exact ⟨⟨k + 1, by omega, int_eq (by omega), HN.out.1, HN.out.2⟩, by simp only [intOf]; omega⟩
        · obtain rfl : k = 42 := by omega
          have HV : Hid (Below w.heap.size w wv) := hb
          clear hcur hcs hb
          go_wp2_with fail
          refine (KA.out _).mono ?_
          rintro e w5 ⟨g', c', rfl, hg3, hg4, hc5, -, hb5⟩
          have c0 := hc5 0 (by omega)
          have c41 := hc5 41 (by omega)
          have H5 : Hid (Below w.heap.size w w5) := HV.out.trans (hb5.mono HV.out.size)
          clear hc5 hb5
          go_wp2_with fail
          refine (K17.out _ H5.out).mono ?_
          rintro e w6 ⟨rfl, hb6⟩
          have H6 : Hid (Below w.heap.size w w6) := H5.out.trans (hb6.mono H5.out.size)
          clear hb6
          go_wp2
          go_ret
          exact ⟨rfl, H6.out⟩
end Go.Proofs.YtlaahendcdifgaaDoor
