/-
  The document's Print by its contract.
-/
import Derived.Test.YtmodmeabjhaklabGreatDoorPrA
import Derived.Deep.QuietTactic
namespace Go.Proofs.YtmodmeabjhaklabGreatDoor
open Go.RowKit

set_option maxRecDepth 20000 in
set_option maxHeartbeats 2000000 in
theorem refPrint_any (m t : List UInt8) (hs : List Hd) (b : List UInt8) (a : Option Addr) (c : Nat) (ba : Option Addr) (bc : Nat) (w : World) (hH : Hdrs w a hs) (hB : Bytes w ba b) (hl : (printL m t hs b).length ≤ 100000000) (hhl : hs.length ≤ 100000000) :
    Calls Tryz.prog 10 #[.agg #[.string ⟨m.toArray⟩, .string ⟨t.toArray⟩, .slice a hs.length c, .slice ba b.length bc]] w fun e w' => ∃ v, e = .returned v ∧ Rw w' w.heap.size v (printL m t hs b) ∧ Below w.heap.size w w' := by
  have hlm : m.length + t.length + (hdsT hs).length + b.length + 14 ≤ 100000000 := by
    simp only [printL, fstL, List.length_append, List.length_cons, List.length_nil] at hl
    omega
  obtain ⟨W, hW⟩ : ∃ W, W = w.alloc (.cells #[.string ⟨m.toArray⟩, .string ⟨t.toArray⟩, .slice a hs.length c, .slice ba b.length bc] 25) := ⟨_, rfl⟩
  have hbW : Below w.heap.size w W := by rw [hW]; exact (Below.refl _ _).alloc (Nat.le_refl _) _
  have HBW : Hid (Below w.heap.size w W) := hbW
  have HH : Hid (Hdrs w a hs ∧ Bytes w ba b) := ⟨hH, hB⟩
  have HL : Hid (m.length + t.length + (hdsT hs).length + b.length + 14 ≤ 100000000) := hlm
  have nW : W.heap[w.heap.size]? = some (.cells #[.string ⟨m.toArray⟩, .string ⟨t.toArray⟩, .slice a hs.length c, .slice ba b.length bc] 25 (0, 0)) := by rw [hW]; exact heap_alloc_new w _
  obtain ⟨N, hN⟩ : ∃ N, N = w.heap.size := ⟨_, rfl⟩
  have hWz : W.heap.size = w.heap.size + 1 := by rw [hW]; show (w.heap.push _).size = _; simp
  rw [← hN] at nW
  have HN1 : Hid (W.heap[N]? = some (.cells #[.string ⟨m.toArray⟩, .string ⟨t.toArray⟩, .slice a hs.length c, .slice ba b.length bc] 25 (0, 0)) ∧ N < W.heap.size) := ⟨nW, by omega⟩
  obtain ⟨S0, hS0⟩ : ∃ S0 : ByteArray, S0 = ⟨m.toArray⟩ ++ ⟨#[32]⟩ ++ ⟨t.toArray⟩ ++ ⟨#[32, 72, 84, 84, 80, 47, 49, 46, 49, 13, 10]⟩ := ⟨_, rfl⟩
  have HS0 : Hid (S0.data.toList = fstL m t) := by show _ = _; rw [hS0]; simp [fstL]
  have hmz : m.length ≤ 100000000 := by omega
  have htz : t.length ≤ 100000000 := by omega
  clear hH hB hl hlm hbW hWz
  go_enter Tryz.func10, Tryz.ntmps10
  go_upto_region 1 with fail
  rw [← hN, ← hW]
  clear hW hN
  have x0 := cell_blk nW 0
  have x1 := cell_blk nW 1
  simp at x0 x1
  clear nW
  go_upto_region 2 with fail
  rw [← hS0]
  clear hS0 x0 x1
  go_wp2
  go_loopw [3, 4] (fun v i wr => ∃ (k : Nat) (S : ByteArray), k ≤ hs.length ∧ i = .int .i64 k ∧ v = .string S ∧ Hid (S.data.toList = fstL m t ++ hdsT (hs.take k)) ∧ Below W.heap.size W wr) (fun _ i _ => hs.length - (intOf i).toNat)
  case atStart => exact ⟨0, S0, Nat.zero_le _, rfl, rfl, by show _ = _; rw [List.take_zero, hdsT, List.append_nil]; exact HS0.out, Below.refl _ _⟩
  case round =>
    obtain ⟨k, S, hk, rfl, rfl, HS, hb⟩ := hrel
    have hbw : Below w.heap.size w wr := HBW.out.trans (hb.mono HBW.out.size)
    have HB := (show Hid (Below W.heap.size W wr) from hb)
    have h3 := (hb.block N HN1.out.2).trans HN1.out.1
    have x2 := cell_blk h3 2
    have x3 := cell_blk h3 3
    simp at x2 x3
    have hSz : S.size ≤ 200000000 := by
      have h1 : S.data.toList.length = S.size := by simp
      have := hdsT_le (hs := hs) k
      have := HL.out
      rw [← h1, HS.out]
      simp only [fstL, List.length_append, List.length_cons, List.length_nil]
      omega
    clear h3
    by_cases hlt : k < hs.length
    · rcases HH.out.1.below hbw (Nat.le_refl _) with hnil | ⟨g, off, rfl, hbs, hc⟩
      · rw [hnil] at hlt; simp at hlt
      · obtain ⟨c1, c2⟩ := hc k hlt
        obtain ⟨h, hh⟩ : ∃ h, h = hs[k] := ⟨_, rfl⟩
        rw [← hh] at c1 c2
        have hz : h.1.length + h.2.length + 4 ≤ 100000000 := by
          have h1 := hdsT_next hlt
          have h2 := hdsT_le (hs := hs) (k + 1)
          have h3 := HL.out
          rw [h1, List.length_append, hdT_len, ← hh] at h2
          omega
        have HR : Hid (fstL m t ++ hdsT (hs.take (k + 1)) = (fstL m t ++ hdsT (hs.take k)) ++ hdT h) := by
          show _ = _
          rw [hdsT_next hlt, hh, List.append_assoc]
        have HHd : Hid ((S ++ ⟨h.1.toArray⟩ ++ ⟨#[58, 32]⟩ ++ ⟨h.2.toArray⟩ ++ ⟨#[13, 10]⟩ : ByteArray).data.toList = fstL m t ++ hdsT (hs.take (k + 1))) := by
          show _ = _
          rw [HR.out, ← HS.out]
          simp [hdT]
        have hz1 : h.1.length ≤ 100000000 := by omega
        have hz2 : h.2.length ≤ 100000000 := by omega
        have hwk : IntKind.i64.wrap ((k : Int) + 1) = (k : Int) + 1 := by rw [IntKind.wrap_i64]; omega
        clear hz hh hc hb hbw hbs
        have hki : (k : Int) < (hs.length : Int) := by omega
        have hkk : (0 : Int) ≤ (k : Int) := by omega
        go_wp2
        go_quiet (fail)
        go_wp2
        exact ⟨⟨k + 1, _, by omega, by go_num, rfl, HHd.out, HB.out.trans ((drewN_below wr _).mono HB.out.size)⟩, by simp [intOf]; omega⟩
    · obtain rfl : k = hs.length := by omega
      have HT : Hid (hs.take hs.length = hs) := List.take_length
      obtain ⟨S1, hS1⟩ : ∃ S1 : ByteArray, S1 = S ++ ⟨#[13, 10]⟩ := ⟨_, rfl⟩
      have hS1l : S1.data.toList = fstL m t ++ hdsT hs ++ [13, 10] := by
        have := HS.out
        rw [HT.out] at this
        rw [hS1, ← this]
        simp
      have hS1z : S1.size ≤ 1000000000 := by
        rw [hS1, ByteArray.size_append]
        show S.size + 2 ≤ _
        omega
      obtain ⟨W1, v1, hcv, hr1, hb1⟩ := conv_rw S1 wr hS1z
      rw [hS1l] at hr1
      rw [hS1] at hcv
      have HR1 := (show Hid (Rw W1 wr.heap.size v1 (fstL m t ++ hdsT hs ++ [13, 10]) ∧ Below wr.heap.size wr W1) from ⟨hr1, hb1⟩)
      have hy3 : W1.cell? ⟨N, 3, none⟩ = some (.slice ba b.length bc) := by
        refine (World.cell?_of_block (hb1.block N (Nat.lt_of_lt_of_le HN1.out.2 hb.size))).trans ?_
        simpa using x3
      have HBy : Hid (Bytes W1 ba b) := (HH.out.2.below hbw (Nat.le_refl _)).below hb1 (Nat.le_refl _)
      have HBw := (show Hid (Below w.heap.size w wr) from hbw)
      have hbl : Hid (b.length ≤ 100000000) := by show _ ≤ _; have := HL.out; omega
      have HLn : Hid ((fstL m t ++ hdsT hs ++ [13, 10]).length ≤ 1000000000) := by
        show _ ≤ _
        have := HL.out
        simp only [fstL, List.length_append, List.length_cons, List.length_nil]
        omega
      clear hS1 hS1l hS1z hr1 hb1 hb hbw
      go_wp2_with (at_builtin; refine wpList_rw_all rfl (.tmp 38) (.tmp 40) rfl wr.heap.size _ _ rfl HR1.out.1 ba b b.length bc rfl rfl HBy.out HLn.out (by have := hbl.out; omega) HR1.out.2.size ?_; intro v3 w3 hr3 hb3; have HR3 := (show Hid (Rw _ _ _ _) from hr3); have HB3 := (show Hid (Below wr.heap.size W1 w3) from hb3); clear hr3 hb3)
      go_ret
      exact ⟨_, rfl, HR3.out.base HBw.out.size, HBw.out.trans ((HR1.out.2.trans HB3.out).mono HBw.out.size)⟩
end Go.Proofs.YtmodmeabjhaklabGreatDoor
