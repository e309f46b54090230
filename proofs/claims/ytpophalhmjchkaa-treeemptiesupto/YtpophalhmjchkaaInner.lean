/-
  Pieces of inner nodes, and inner nodes cut, by their contracts.
-/
import Derived.Test.YtpophalhmjchkaaEdit
namespace Go.Proofs.Ytpophalhmjchkaa
open Go.RowKit

set_option maxHeartbeats 2000000 in
set_option maxRecDepth 20000 in
theorem ipiece_any {AV : Avd} (b h : Nat) (bs : List ByteArray) (cs : List T) (i j : Nat) (w : World) (hr : Rw w h b (bs, cs)) (hl : cs.length = bs.length + 1) (hij : i < j) (hj : j ≤ cs.length) (hn : cs.length ≤ 1000) :
    Calls Try.prog 53 #[.pointer (some ⟨b, 0, none⟩), .int .i64 (i : Int), .int .i64 (j : Int)] w fun e w' => ∃ b', e = .returned (.pointer (some ⟨b', 0, none⟩)) ∧ Rw w' h b' ((bs.take (j - 1)).drop i, (cs.take j).drop i) ∧ Below w.heap.size w w' := by
  obtain ⟨i1, hi1, hz10, hz11, hz12⟩ := info_parts info9
  obtain ⟨i2, hi2, hz20, hz21, hz22⟩ := info_parts info61
  obtain ⟨a1, c1, a2, c2, vs, q1, q2, q3, q4⟩ := hr
  have q2 : Sl w 1 a1 bs.length c1 (scs bs) := q2
  have q3 : Sl w 1 a2 cs.length c2 vs := q3
  have q4 : All2 (Nd w h) vs cs := q4
  have k0 : w.cell? ⟨b, 0, none⟩ = some (.slice a1 bs.length c1) := cell_blk q1 0
  have k1 : w.cell? ⟨b, 1, none⟩ = some (.slice a2 cs.length c2) := cell_blk q1 1
  have d0 : w.drew.cell? ⟨b, 0, none⟩ = some (.slice a1 bs.length c1) := k0
  have d1 : w.drew.cell? ⟨b, 1, none⟩ = some (.slice a2 cs.length c2) := k1
  obtain ⟨a1', s1, t1⟩ := slice_both Try.underlying23 hi1 hz11 q2 (k := i) (m := j - 1) (by omega) (by omega)
  obtain ⟨a2', s2, t2⟩ := slice_both Try.underlying80 hi2 hz21 q3 (k := i) (m := j) (by omega) (by omega)
  rw [scs_mid] at t1
  have hvl := q4.len
  have e1 : ((bs.take (j - 1)).drop i).length = j - 1 - i := by rw [List.length_drop, List.length_take]; omega
  have e2 : ((cs.take j).drop i).length = j - i := by rw [List.length_drop, List.length_take]; omega
  have hbl : b < w.heap.size := (Array.getElem?_eq_some_iff.1 q1).1
  have hbd : Below w.heap.size w w.drew := (Below.refl _ _).drew
  have s1' : ∀ wx, (Instr.slice 23 (.slice a1 bs.length c1) (some (.int .i64 (i : Int))) (some (.int .i64 ((j : Int) - 1))) none).run Try.prog wx = .ok (.slice a1' (j - 1 - i) (c1 - i)) wx := fun wx => by
    have := s1 wx
    rwa [show ((j - 1 : Nat) : Int) = (j : Int) - 1 from by omega] at this
  have hA : All2 (Nd w h) ((vs.take (j * 1)).drop (i * 1)) ((cs.take j).drop i) := by rw [Nat.mul_one, Nat.mul_one]; exact (q4.take j).drop i
  have HC : Hid (Calls Try.prog 62 #[.slice a1' (j - 1 - i) (c1 - i)] w.drew fun e w1 => ∃ x1 y1, e = .returned (.slice x1 (j - 1 - i) y1) ∧ w1.cell? ⟨b, 0, none⟩ = some (.slice a1 bs.length c1) ∧ w1.cell? ⟨b, 1, none⟩ = some (.slice a2 cs.length c2) ∧
      Calls Try.prog 63 #[.slice a2' (j - i) (c2 - i)] w1 fun e w2 => ∃ x2 y2, e = .returned (.slice x2 (j - i) y2) ∧ w2.cell? ⟨b, 0, none⟩ = some (.slice a1 bs.length c1) ∧ w2.cell? ⟨b, 1, none⟩ = some (.slice a2 cs.length c2) ∧ Rw (w2.alloc (.cells #[.slice x1 (j - 1 - i) y1, .slice x2 (j - i) y2] 85)) h w2.heap.size ((bs.take (j - 1)).drop i, (cs.take j).drop i) ∧ Below w.heap.size w (w2.alloc (.cells #[.slice x1 (j - 1 - i) y1, .slice x2 (j - i) y2] 85))) := (by
    refine Calls.mono (cloneS a1' (j - 1 - i) (c1 - i) _ w.drew (t1.below hbd) (by omega)) ?_
    rintro e w1 ⟨v1, rfl, o1, b1⟩
    obtain ⟨x1, y1, rfl, l1⟩ := Sl.ownA o1 (scs_one _) q2.av (Nat.le_refl _) b1.size
    have b01 := hbd.trans b1
    refine ⟨x1, y1, rfl, (b01.cell (p := ⟨b, 0, none⟩) hbl).trans k0, (b01.cell (p := ⟨b, 1, none⟩) hbl).trans k1, ?_⟩
    refine Calls.mono (cloneN a2' (j - i) (c2 - i) _ w1 (t2.below b01) (by omega)) ?_
    rintro e w2 ⟨v2, rfl, o2, b2⟩
    obtain ⟨x2, y2, rfl, l2⟩ := Sl.ownA o2 t2.one q2.av b01.size (Nat.le_trans b01.size b2.size)
    have b02 := b01.trans (b2.mono b01.size)
    refine ⟨x2, y2, rfl, (b02.cell (p := ⟨b, 0, none⟩) hbl).trans k0, (b02.cell (p := ⟨b, 1, none⟩) hbl).trans k1, ?_, b02.alloc b02.size _⟩
    have := Rw.make (h := h) (bs := (bs.take (j - 1)).drop i) (cs := (cs.take j).drop i) (w := w2) (by rw [e1]; exact l1.below b2) (by rw [e2]; exact l2) (hA.mono (fun _ _ hn => hn.below b02))
    rw [e1, e2] at this
    exact this)
  have hwj : IntKind.i64.wrap ((j : Int) - 1) = (j : Int) - 1 := by rw [IntKind.wrap_i64]; omega
  obtain ⟨n1, hn1⟩ : ∃ n1, n1 = j - 1 - i := ⟨_, rfl⟩
  obtain ⟨n2, hn2⟩ : ∃ n2, n2 = j - i := ⟨_, rfl⟩
  obtain ⟨m1, hm1⟩ : ∃ m1, m1 = c1 - i := ⟨_, rfl⟩
  obtain ⟨m2, hm2⟩ : ∃ m2, m2 = c2 - i := ⟨_, rfl⟩
  rw [← hn1, ← hn2, ← hm1, ← hm2] at HC
  rw [← hn1, ← hm1] at s1'
  rw [← hn2, ← hm2] at s2
  clear q1 q2 q3 q4 s1 t1 t2 hA e1 e2 hvl hbl hbd hn1 hn2 hm1 hm2 hl hij hj
  go_enter Try.func53, Try.ntmps53
  go_wp2
  go_region_held3 (fun w' => w'.cell? ⟨b, 0, none⟩ = some (.slice a1 bs.length c1) ∧ w'.cell? ⟨b, 1, none⟩ = some (.slice a2 cs.length c2)) (go_keep)
    (first
      | (go_at_call 62; refine Calls.mono HC.out ?_; rintro e w1 ⟨x1, y1, rfl, u0, u1, hc2⟩)
      | (go_at_call 63; refine Calls.mono hc2 ?_; rintro e w2 ⟨x2, y2, rfl, u2, u3, hrw, hb2⟩))
  go_wp2
  go_ret
  exact ⟨_, rfl, hrw, hb2⟩

set_option maxHeartbeats 2000000 in
set_option maxRecDepth 20000 in
theorem icut_any {AV : Avd} (b h : Nat) (bs : List ByteArray) (cs : List T) (w : World) (hr : Rw w h b (bs, cs)) (hl : cs.length = bs.length + 1) (hn : cs.length ≤ 16) :
    Calls Try.prog 39 #[.pointer (some ⟨b, 0, none⟩)] w fun e w' => ∃ b', e = .returned (.pointer (some ⟨b', 0, none⟩)) ∧ Rw w' (h + 1) b' (cutT (.inner bs cs)) ∧ Below w.heap.size w w' := by
  have hsz := isize_any b bs cs w hr
  by_cases h8 : cs.length ≤ 8
  · have h8i : (cs.length : Int) ≤ 8 := by omega
    have hr2 := row_one (w := w) (h := h + 1) (v := .iface 66 (.pointer (some ⟨b, 0, none⟩))) (t := .inner bs cs) ⟨b, rfl, hr⟩
    have HR : Hid (Rw ((w.alloc (.cells #[.iface 66 (.pointer (some ⟨b, 0, none⟩))] 61)).alloc (.cells #[.slice none 0 0, .slice (some ⟨w.heap.size, 0, none⟩) 1 1] 85)) (h + 1) (w.heap.size + 1) (cutT (.inner bs cs)) ∧ Below w.heap.size w ((w.alloc (.cells #[.iface 66 (.pointer (some ⟨b, 0, none⟩))] 61)).alloc (.cells #[.slice none 0 0, .slice (some ⟨w.heap.size, 0, none⟩) 1 1] 85))) := ⟨by rw [cutT, if_pos h8]; exact hr2.1, hr2.2⟩
    clear hr hr2 h8
    go_enter Try.func39, Try.ntmps39
    go_wp2_with (go_at_call 41; refine Calls.mono hsz ?_; rintro e w2 ⟨rfl, rfl⟩)
    go_ret
    exact ⟨_, rfl, HR.out.1, HR.out.2⟩
  · have h8i : ¬ (cs.length : Int) ≤ 8 := by omega
    obtain ⟨m, hm⟩ : ∃ m, m = cs.length / 2 := ⟨_, rfl⟩
    have hml : m - 1 < bs.length := by omega
    have hmi : Int.tdiv (cs.length : Int) 2 = (m : Int) := by rw [Int.tdiv_eq_ediv_of_nonneg (by omega)]; omega
    have hmi2 : (cs.length : Int) / 2 = (m : Int) := by omega
    have hp1 := ipiece_any b h bs cs 0 m w hr hl (by omega) (by omega) (by omega)
    have hcut : cutT (.inner bs cs) = ([bs[m - 1]], [.inner (bs.take (m - 1)) (cs.take m), .inner (bs.drop m) (cs.drop m)]) := by rw [cutT, if_neg h8, ← hm, getD_of hml]
    have e1 : ((bs.take (m - 1)).drop 0, (cs.take m).drop 0) = (bs.take (m - 1), cs.take m) := rfl
    have e2 : ((bs.take (cs.length - 1)).drop m, (cs.take cs.length).drop m) = (bs.drop m, cs.drop m) := by
      rw [List.take_length, List.take_of_length_le (by omega)]
    rw [e1] at hp1
    have HL : Hid (∀ w1, Below w.heap.size w w1 → Calls Try.prog 41 #[.pointer (some ⟨b, 0, none⟩)] w1 fun e w' => e = .returned (.int .i64 (cs.length : Int)) ∧ w1 = w') := fun w1 hb => isize_any b bs cs w1 (hr.below hb)
    have HP2 : Hid (∀ w1, Below w.heap.size w w1 → Calls Try.prog 53 #[.pointer (some ⟨b, 0, none⟩), .int .i64 (m : Int), .int .i64 (cs.length : Int)] w1 fun e w' => ∃ b', e = .returned (.pointer (some ⟨b', 0, none⟩)) ∧ Rw w' h b' (bs.drop m, cs.drop m) ∧ Below w1.heap.size w1 w') := fun w1 hb => by
      have := ipiece_any b h bs cs m cs.length w1 (hr.below hb) hl (by omega) (Nat.le_refl _) (by omega)
      rw [e2] at this
      exact this
    have HC : Hid (∀ w2, Below w.heap.size w w2 → ∃ bb off a c, a = some ⟨bb, off, none⟩ ∧ w2.cell? ⟨b, 0, none⟩ = some (.slice a bs.length c) ∧ w2.cell? ⟨bb, off + (m - 1), none⟩ = some (.string bs[m - 1])) := (by
      intro w2 hb
      obtain ⟨a1, c1, a2, c2, vs, q1, q2, q3, q4⟩ := hr.below hb
      obtain ⟨l1, e1⟩ := List.getElem?_eq_some_iff.1 (scs_get hml)
      obtain ⟨bb, off, e, _, hc⟩ := q2.at l1
      exact ⟨bb, off, a1, c1, e, cell_blk q1 0, (hc _ l1).trans (by rw [e1])⟩)
    obtain ⟨x, hx⟩ : ∃ x, x = bs[m - 1] := ⟨_, rfl⟩
    rw [← hx] at HC hcut
    obtain ⟨m', hm'⟩ : ∃ m', m' = m - 1 := ⟨_, rfl⟩
    rw [← hm'] at HC
    have HR : Hid (∀ w1 w2 b1 b2, Below w.heap.size w w1 → Below w1.heap.size w1 w2 → Rw w1 h b1 (bs.take (m - 1), cs.take m) → Rw w2 h b2 (bs.drop m, cs.drop m) → Rw (((w2.alloc (.cells #[.string x] 9)).alloc (.cells #[.iface 66 (.pointer (some ⟨b1, 0, none⟩)), .iface 66 (.pointer (some ⟨b2, 0, none⟩))] 61)).alloc (.cells #[.slice (some ⟨w2.heap.size, 0, none⟩) 1 1, .slice (some ⟨w2.heap.size + 1, 0, none⟩) 2 2] 85)) (h + 1) (w2.heap.size + 1 + 1) (cutT (.inner bs cs)) ∧ Below w.heap.size w (((w2.alloc (.cells #[.string x] 9)).alloc (.cells #[.iface 66 (.pointer (some ⟨b1, 0, none⟩)), .iface 66 (.pointer (some ⟨b2, 0, none⟩))] 61)).alloc (.cells #[.slice (some ⟨w2.heap.size, 0, none⟩) 1 1, .slice (some ⟨w2.heap.size + 1, 0, none⟩) 2 2] 85))) := (by
      intro w1 w2 b1 b2 hb1 hb2 l1 l2
      have := row_two (w := w2) (h := h + 1) (v1 := .iface 66 (.pointer (some ⟨b1, 0, none⟩))) (v2 := .iface 66 (.pointer (some ⟨b2, 0, none⟩))) (t1 := .inner (bs.take (m - 1)) (cs.take m)) (t2 := .inner (bs.drop m) (cs.drop m)) x ⟨b1, rfl, l1.below hb2⟩ ⟨b2, rfl, l2⟩
      rw [hcut]
      have hb12 := hb1.trans (hb2.mono hb1.size)
      exact ⟨this.1, hb12.trans (this.2.mono hb12.size)⟩)
    have hmm : (m : Int) - 1 = (m' : Int) := by omega
    have hmli : (m' : Int) < (bs.length : Int) := by omega
    have hwm : IntKind.i64.wrap ((m : Int) - 1) = (m : Int) - 1 := by rw [IntKind.wrap_i64]; omega
    have hm8 : m ≤ 8 := by omega
    clear hr h8 hm hcut e1 e2 hx hm' hml hl
    go_enter Try.func39, Try.ntmps39
    go_wp2_with (first
      | (go_at_call 41; (with_reducible refine Calls.mono hsz ?_); rintro e w0 ⟨rfl, rfl⟩)
      | (go_at_call 53; (with_reducible refine Calls.mono hp1 ?_); rintro e w1 ⟨b1, rfl, l1, hb1⟩; have hsz1 := HL.out w1 hb1; have hp2 := HP2.out w1 hb1)
      | (go_at_call 41; (with_reducible refine Calls.mono hsz1 ?_); rintro e w1' ⟨rfl, rfl⟩)
      | (go_at_call 53; (with_reducible refine Calls.mono hp2 ?_); rintro e w2 ⟨b2, rfl, l2, hb2⟩; obtain ⟨bb, off, a, c, rfl, c0, c1⟩ := HC.out w2 (hb1.trans (hb2.mono hb1.size))))
    go_ret
    obtain ⟨r1, r2⟩ := HR.out w1 w2 b1 b2 hb1 hb2 l1 l2
    exact ⟨_, rfl, r1, r2⟩
end Go.Proofs.Ytpophalhmjchkaa
