/-
  http.Print by its contract.
-/
import Derived.Test.YtmodmeabjhaklaaGreatDoorObT
import Derived.Test.YtmodmeabjhaklaaGreatDoorRunC
import Derived.Deep.Cut
namespace Go.Proofs.YtmodmeabjhaklaaGreatDoor
open Go.RowKit

def hdT (h : Hd) : List UInt8 := h.1 ++ [58, 32] ++ h.2 ++ [13, 10]
def hdsT : List Hd → List UInt8
  | [] => []
  | h :: r => hdT h ++ hdsT r
def fstL (m t : List UInt8) : List UInt8 := m ++ [32] ++ t ++ [32] ++ [72, 84, 84, 80, 47, 49, 46, 49] ++ [13, 10]
/-- A request that is printed. -/
def printL (m t : List UInt8) (hs : List Hd) (b : List UInt8) : List UInt8 := fstL m t ++ hdsT hs ++ [13, 10] ++ b
theorem hdsT_app (a b : List Hd) : hdsT (a ++ b) = hdsT a ++ hdsT b := by
  induction a with
  | nil => rfl
  | cons h r ih => rw [List.cons_append, hdsT, hdsT, ih, List.append_assoc]
theorem hdsT_next {hs : List Hd} {k : Nat} (hk : k < hs.length) : hdsT (hs.take (k + 1)) = hdsT (hs.take k) ++ hdT hs[k] := by
  rw [List.take_succ_eq_append_getElem hk, hdsT_app]
  simp [hdsT]
theorem hdsT_le {hs : List Hd} (k : Nat) : (hdsT (hs.take k)).length ≤ (hdsT hs).length := by
  have h := hdsT_app (hs.take k) (hs.drop k)
  rw [List.take_append_drop] at h
  rw [h, List.length_append]
  omega
theorem hdT_len (h : Hd) : (hdT h).length = h.1.length + h.2.length + 4 := by
  simp only [hdT, List.length_append, List.length_cons, List.length_nil]
  omega
theorem mk_len (x : List UInt8) : (⟨x.toArray⟩ : ByteArray).size = x.length := by simp [ByteArray.size]
set_option maxRecDepth 20000 in
set_option maxHeartbeats 2000000 in
theorem print_any (m t : List UInt8) (hs : List Hd) (b : List UInt8) (a : Option Addr) (c : Nat) (ba : Option Addr) (bc : Nat) (w : World) (hH : Hdrs w a hs) (hB : Bytes w ba b) (hl : (printL m t hs b).length ≤ 100000000) (hhl : hs.length ≤ 100000000) :
    Calls Tryz.prog 20 #[.agg #[.string ⟨m.toArray⟩, .string ⟨t.toArray⟩, .slice a hs.length c, .slice ba b.length bc]] w fun e w' => ∃ v, e = .returned v ∧ Rw w' w.heap.size v (printL m t hs b) ∧ Below w.heap.size w w' := by
  have hlm : m.length + t.length + (hdsT hs).length + b.length + 14 ≤ 100000000 := by
    simp only [printL, fstL, List.length_append, List.length_cons, List.length_nil] at hl
    omega
  obtain ⟨W, hW⟩ : ∃ W, W = w.alloc (.cells #[.string ⟨m.toArray⟩, .string ⟨t.toArray⟩, .slice a hs.length c, .slice ba b.length bc] 26) := ⟨_, rfl⟩
  have hbW : Below w.heap.size w W := by rw [hW]; exact (Below.refl _ _).alloc (Nat.le_refl _) _
  obtain ⟨S0, hS0⟩ : ∃ S0 : ByteArray, S0 = ⟨m.toArray⟩ ++ ⟨#[32]⟩ ++ ⟨t.toArray⟩ ++ ⟨#[32]⟩ ++ ⟨#[72, 84, 84, 80, 47, 49, 46, 49]⟩ ++ ⟨#[13, 10]⟩ := ⟨_, rfl⟩
  have hS0l : S0.data.toList = fstL m t := by rw [hS0]; simp [fstL]
  have hS0z : S0.size ≤ 1000000000 := by
    have : S0.data.toList.length = S0.size := by simp
    rw [← this, hS0l]
    simp only [fstL, List.length_append, List.length_cons, List.length_nil]
    omega
  obtain ⟨W1, v1, hcv, hr1, hb1⟩ := conv_rw S0 W hS0z
  rw [hS0l] at hr1
  rw [hS0] at hcv
  have HR1 : Hid (Rw W1 W.heap.size v1 (fstL m t) ∧ Below w.heap.size w W ∧ Below W.heap.size W W1) := ⟨hr1, hbW, hb1⟩
  have HH : Hid (Hdrs w a hs ∧ Bytes w ba b) := ⟨hH, hB⟩
  have HL : Hid (m.length + t.length + (hdsT hs).length + b.length + 14 ≤ 100000000) := hlm
  have nW : W.heap[w.heap.size]? = some (.cells #[.string ⟨m.toArray⟩, .string ⟨t.toArray⟩, .slice a hs.length c, .slice ba b.length bc] 26 (0, 0)) := by rw [hW]; exact heap_alloc_new w _
  obtain ⟨N, hN⟩ : ∃ N, N = w.heap.size := ⟨_, rfl⟩
  have HNW : Hid (N = w.heap.size) := hN
  have hWz : W.heap.size = w.heap.size + 1 := by rw [hW]; show (w.heap.push _).size = _; simp
  have HN1 : Hid (W1.heap[N]? = some (.cells #[.string ⟨m.toArray⟩, .string ⟨t.toArray⟩, .slice a hs.length c, .slice ba b.length bc] 26 (0, 0)) ∧ N < W.heap.size ∧ Below W.heap.size W W1) := ⟨by rw [hN]; exact (hb1.block _ (by omega)).trans nW, by omega, hb1⟩
  rw [← hN] at nW
  have hmz : m.length ≤ 100000000 := by omega
  have htz : t.length ≤ 100000000 := by omega
  clear hH hB hl hlm hbW hS0 hS0l hS0z hr1 hb1 hWz
  go_enter Tryz.func20, Tryz.ntmps20
  go_upto_region 1 with fail
  rw [← hN, ← hW]
  clear hW hN
  have x0 := cell_blk nW 0
  have x1 := cell_blk nW 1
  simp at x0 x1
  clear nW
  go_upto_region 2 with fail
  clear hcv x0 x1
  have x2 := cell_blk HN1.out.1 2
  simp at x2
  go_wp2
  clear x2
  go_loopw [3, 19] (fun v i wr => ∃ k : Nat, k ≤ hs.length ∧ i = .int .i64 k ∧ Rw wr W.heap.size v (fstL m t ++ hdsT (hs.take k)) ∧ Below W.heap.size W wr) (fun _ i _ => hs.length - (intOf i).toNat)
  case atStart => exact ⟨0, Nat.zero_le _, rfl, by rw [List.take_zero, hdsT, List.append_nil]; exact HR1.out.1, HR1.out.2.2⟩
  case round =>
    obtain ⟨k, hk, rfl, hr, hb⟩ := hrel
    have hbw : Below w.heap.size w wr := HR1.out.2.1.trans (hb.mono HR1.out.2.1.size)
    have HB := (show Hid (Below W.heap.size W wr) from hb)
    have HBw := (show Hid (Below w.heap.size w wr) from hbw)
    have HRr := (show Hid (Rw wr W.heap.size _ (fstL m t ++ hdsT (hs.take k))) from hr)
    have HLk : Hid ((fstL m t ++ hdsT (hs.take k)).length ≤ 200000000) := by
      show _ ≤ _
      have := hdsT_le (hs := hs) k
      have := HL.out
      simp only [fstL, List.length_append, List.length_cons, List.length_nil]
      omega
    by_cases hlt : k < hs.length
    · rcases HH.out.1.below hbw (Nat.le_refl _) with hnil | ⟨g, off, rfl, hbs, hc⟩
      · rw [hnil] at hlt; simp at hlt
      · obtain ⟨c1, c2⟩ := hc k hlt
        obtain ⟨h, hh⟩ : ∃ h, h = hs[k] := ⟨_, rfl⟩
        rw [← hh] at c1 c2
        have hz : h.1.length + h.2.length + 4 ≤ 100000000 := by
          have h1 := hdsT_next hlt
          have h2 := hdsT_le (hs := hs) (k + 1)
          have h3 := HL.out
          rw [h1, List.length_append, hdT_len, ← hh] at h2
          omega
        have HR : Hid (fstL m t ++ hdsT (hs.take (k + 1)) = (fstL m t ++ hdsT (hs.take k)) ++ hdT h) := by
          show _ = _
          rw [hdsT_next hlt, hh, List.append_assoc]
        have HHd : Hid ((⟨h.1.toArray⟩ ++ ⟨#[58, 32]⟩ ++ ⟨h.2.toArray⟩ ++ ⟨#[13, 10]⟩ : ByteArray).data.toList = hdT h ∧ (⟨h.1.toArray⟩ ++ ⟨#[58, 32]⟩ ++ ⟨h.2.toArray⟩ ++ ⟨#[13, 10]⟩ : ByteArray).size = h.1.length + h.2.length + 4) := by
          refine ⟨by simp [hdT], ?_⟩
          simp only [ByteArray.size_append, mk_len]
          show h.1.length + 2 + h.2.length + 2 = _
          omega
        have hz1 : h.1.length ≤ 100000000 := by omega
        have hz2 : h.2.length ≤ 100000000 := by omega
        have hwk : IntKind.i64.wrap ((k : Int) + 1) = (k : Int) + 1 := by rw [IntKind.wrap_i64]; omega
        have HZ := (show Hid (h.1.length + h.2.length + 4 ≤ 100000000) from hz)
        clear hz hh hc hr hb hbw hbs
        have hki : (k : Int) < (hs.length : Int) := by omega
        have hkk : (0 : Int) ≤ (k : Int) := by omega
        go_wp2_with (at_builtin; refine wpList_rw_str rfl (.tmp 23) (.tmp 30) rfl W.heap.size _ _ rfl (Rw.alloc HRr.out _) (⟨h.1.toArray⟩ ++ ⟨#[58, 32]⟩ ++ ⟨h.2.toArray⟩ ++ ⟨#[13, 10]⟩) rfl (hdT h) HHd.out.1 (by have := HLk.out; omega) (by rw [HHd.out.2]; omega) (by rw [HHd.out.2]; have := HZ.out; omega) (by have := HB.out.size; simp; omega) ?_; intro v2 w2 hk2)
        have HR2 : Hid (Rw w2 W.heap.size v2 (fstL m t ++ hdsT (hs.take (k + 1)))) := by
          show Rw _ _ _ _
          rw [HR.out]
          exact hk2.own
        have hb2 : Below W.heap.size W w2 := (HB.out.alloc HB.out.size _).grown hk2.grown (by have := HB.out.size; simp; omega) (fun k hk => (HRr.out.lt k hk).1)
        exact ⟨⟨k + 1, by omega, by go_num, HR2.out, hb2⟩, by simp [intOf]; omega⟩
    · obtain rfl : k = hs.length := by omega
      have hx3 : wr.cell? ⟨N, 3, none⟩ = some (.slice ba b.length bc) := by
        have h1 := HN1.out.1
        have h2 : W.heap[N]? = W1.heap[N]? := (HN1.out.2.2.block N HN1.out.2.1).symm
        have h3 := (hb.block N HN1.out.2.1).trans (h2.trans h1)
        have := cell_blk h3 3
        simpa using this
      have HT : Hid (hs.take hs.length = hs) := List.take_length
      have HBy : Hid (Bytes wr ba b) := HH.out.2.below hbw (Nat.le_refl _)
      have hbl : Hid (b.length ≤ 100000000) := by show _ ≤ _; have := HL.out; omega
      clear hb hr hbw
      go_wp2_with (first
        | (at_builtin; refine wpList_rw_str rfl (.tmp 33) (.const (.string ⟨#[13, 10]⟩)) rfl W.heap.size _ _ rfl HRr.out ⟨#[13, 10]⟩ rfl [13, 10] rfl (by have := HLk.out; omega) (by decide) (by decide) HB.out.size ?_; intro v2 w2 hk2; have HB2 := (show Hid (Below W.heap.size W w2) from HB.out.grown hk2.grown HB.out.size (fun k hk => (HRr.out.lt k hk).1)); have HR2 := (show Hid (Rw _ _ _ _) from hk2.own); have hx4 := (show w2.cell? ⟨N, 3, none⟩ = some (.slice ba b.length bc) from (World.cell?_of_block ((hk2.grown.block N (Nat.lt_of_lt_of_le HN1.out.2.1 HB.out.size) (fun e => by have := (HRr.out.lt N e.symm).1; have := HN1.out.2.1; omega)))).trans hx3); have HBy2 := (show Hid (Bytes w2 ba b) from HH.out.2.below (HR1.out.2.1.trans (HB2.out.mono HR1.out.2.1.size)) (Nat.le_refl _)); clear hk2)
        | (at_builtin; refine wpList_rw_all rfl (.tmp 35) (.tmp 37) rfl W.heap.size _ _ rfl HR2.out ba b b.length bc rfl rfl HBy2.out (by have := HLk.out; simp only [List.length_append, List.length_cons, List.length_nil] at this ⊢; omega) (by have := hbl.out; omega) HB2.out.size ?_; intro v3 w3 hr3 hb3; have HR3 := (show Hid (Rw _ _ _ _) from hr3); have HB3 := (show Hid (Below W.heap.size w2 w3) from hb3); clear hr3 hb3))
      go_ret
      have hfin := HR3.out
      rw [HT.out] at hfin
      refine ⟨_, rfl, hfin.base HR1.out.2.1.size, HR1.out.2.1.trans ((HB2.out.trans HB3.out).mono HR1.out.2.1.size)⟩
end Go.Proofs.YtmodmeabjhaklaaGreatDoor
