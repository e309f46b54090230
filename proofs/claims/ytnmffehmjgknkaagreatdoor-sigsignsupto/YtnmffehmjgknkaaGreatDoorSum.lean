/-
  The state's 'sum' of both kinds.
-/
import Derived.Test.YtnmffehmjgknkaaGreatDoorPad
namespace Go.Proofs.YtnmffehmjgknkaaGreatDoor
open Go.RowKit

/-- A word's byte. -/
def wb (x : Wd) (k : Nat) : UInt8 := UInt8.ofNat (x.toNat / 256 ^ k)
/-- A byte of the size in bits. -/
def szb (size k : Nat) : UInt8 := UInt8.ofNat (size * 8 / 2 ^ (8 * k))
/-- Bytes laid in, one by one. -/
def lay8 (p : List UInt8) (f : Nat → UInt8) (pos : Nat → Nat) : Nat → List UInt8
  | 0 => p
  | k + 1 => (lay8 p f pos k).set (pos k) (f k)
theorem lay8_length (p : List UInt8) (f : Nat → UInt8) (pos : Nat → Nat) (k : Nat) : (lay8 p f pos k).length = p.length := by
  induction k with
  | zero => rfl
  | succ k ih => rw [lay8, List.length_set, ih]
theorem szb_cell (size k : Nat) : ((szb size k).toNat : Int) = (size : Int) * 8 / 2 ^ (8 * k) % 256 := by
  rw [szb, UInt8.toNat_ofNat']
  simp
theorem flat4_len (f : Wd → List UInt8) (hf : ∀ x, (f x).length = 4) (l : List Wd) : (l.flatMap f).length = 4 * l.length := by
  induction l with
  | nil => rfl
  | cons x l ih => rw [List.flatMap_cons, List.length_append, hf, ih, List.length_cons]; omega
theorem cell_four_new (w : World) (a b c d : Value) (t : TypeId) : ∀ j u, [a, b, c, d][j]? = some u → (w.alloc (.cells #[a, b, c, d] t)).cell? ((⟨w.heap.size, 0, none⟩ : Addr).add j) = some u := by
  intro j u hj
  rw [Addr.add_lit, World.cell?_alloc_mark]
  simpa using hj
theorem four_one (a b c d : Int) : ∀ u ∈ [Value.int .u8 a, .int .u8 b, .int .u8 c, .int .u8 d], u.oneCell' = true := by
  intro u hu
  simp at hu
  rcases hu with rfl | rfl | rfl | rfl <;> rfl
theorem wb0 (x : Wd) : W x % 256 = ((wb x 0).toNat : Int) := by rw [wb, UInt8.toNat_ofNat']; simp [W]
theorem wb1 (x : Wd) : W x / 256 % 256 = ((wb x 1).toNat : Int) := by rw [wb, UInt8.toNat_ofNat']; simp [W]
theorem wb2 (x : Wd) : W x / 65536 % 256 = ((wb x 2).toNat : Int) := by rw [wb, UInt8.toNat_ofNat']; simp [W]
theorem wb3 (x : Wd) : W x / 16777216 = ((wb x 3).toNat : Int) := by
  have h : W x / 16777216 % 256 = ((wb x 3).toNat : Int) := by rw [wb, UInt8.toNat_ofNat']; simp [W]
  have := W_bd x
  omega
/-- The last blocks: the rest, a bit, noughts, the size in bits. -/
def mfin (r : List UInt8) (size : Nat) : List UInt8 := lay8 (padL r) (szb size) (fun j => pl r.length - 8 + j) 8
def sfin (r : List UInt8) (size : Nat) : List UInt8 := lay8 (padL r) (szb size) (fun j => pl r.length - 1 - j) 8

theorem index65 (t : S8) (k : Nat) (h : k < 8) (w : World) :
    (Instr.index 175 (.agg (wcs t.toL).toArray) (.int .i64 (k : Int))).run Tryz.prog w = .ok (.int .u32 (W (t.toL.getD k 0))) w := by
  show (Instr.index 175 (.agg #[.int .u32 (W t.a), .int .u32 (W t.b), .int .u32 (W t.c), .int .u32 (W t.d), .int .u32 (W t.e), .int .u32 (W t.f), .int .u32 (W t.g), .int .u32 (W t.h)]) (.int .i64 (k : Int))).run Tryz.prog w = _
  obtain ⟨i3, h3, _, hz, _⟩ := info_parts info159
  match k, h with
  | 0, _ => simp [Instr.index, asIntOf, run_underlying Tryz.underlying175, sizeOf, typeInfo, part, h3, hz, S8.toL]
  | 1, _ => simp [Instr.index, asIntOf, run_underlying Tryz.underlying175, sizeOf, typeInfo, part, h3, hz, S8.toL]
  | 2, _ => simp [Instr.index, asIntOf, run_underlying Tryz.underlying175, sizeOf, typeInfo, part, h3, hz, S8.toL]
  | 3, _ => simp [Instr.index, asIntOf, run_underlying Tryz.underlying175, sizeOf, typeInfo, part, h3, hz, S8.toL]
  | 4, _ => simp [Instr.index, asIntOf, run_underlying Tryz.underlying175, sizeOf, typeInfo, part, h3, hz, S8.toL]
  | 5, _ => simp [Instr.index, asIntOf, run_underlying Tryz.underlying175, sizeOf, typeInfo, part, h3, hz, S8.toL]
  | 6, _ => simp [Instr.index, asIntOf, run_underlying Tryz.underlying175, sizeOf, typeInfo, part, h3, hz, S8.toL]
  | 7, _ => simp [Instr.index, asIntOf, run_underlying Tryz.underlying175, sizeOf, typeInfo, part, h3, hz, S8.toL]

/-- The bytes of the state at the end. -/
def md5Out (t : S4) : List UInt8 := t.toL.flatMap fun x => [wb x 0, wb x 1, wb x 2, wb x 3]
theorem md5Out_snoc (t : S4) {k : Nat} (h : k < 4) : (t.toL.take (k + 1)).flatMap (fun x => [wb x 0, wb x 1, wb x 2, wb x 3]) = (t.toL.take k).flatMap (fun x => [wb x 0, wb x 1, wb x 2, wb x 3]) ++ [wb (t.toL.getD k 0) 0, wb (t.toL.getD k 0) 1, wb (t.toL.getD k 0) 2, wb (t.toL.getD k 0) 3] := by
  have hl : k < t.toL.length := h
  rw [List.take_succ_eq_append_getElem hl, List.flatMap_append, getD_at hl]
  simp
theorem md5Out_len (t : S4) (k : Nat) (h : k ≤ 4) : ((t.toL.take k).flatMap (fun x => [wb x 0, wb x 1, wb x 2, wb x 3])).length = 4 * k := by
  rw [flat4_len _ (by intros; rfl), List.length_take]
  have : t.toL.length = 4 := rfl
  omega

/-- The bytes of the state at the end. -/
def shaOut (t : S8) : List UInt8 := t.toL.flatMap fun x => [wb x 3, wb x 2, wb x 1, wb x 0]
theorem shaOut_snoc (t : S8) {k : Nat} (h : k < 8) : (t.toL.take (k + 1)).flatMap (fun x => [wb x 3, wb x 2, wb x 1, wb x 0]) = (t.toL.take k).flatMap (fun x => [wb x 3, wb x 2, wb x 1, wb x 0]) ++ [wb (t.toL.getD k 0) 3, wb (t.toL.getD k 0) 2, wb (t.toL.getD k 0) 1, wb (t.toL.getD k 0) 0] := by
  have hl : k < t.toL.length := h
  rw [List.take_succ_eq_append_getElem hl, List.flatMap_append, getD_at hl]
  simp
theorem shaOut_len (t : S8) (k : Nat) (h : k ≤ 8) : ((t.toL.take k).flatMap (fun x => [wb x 3, wb x 2, wb x 1, wb x 0])).length = 4 * k := by
  rw [flat4_len _ (by intros; rfl), List.length_take]
  have : t.toL.length = 8 := rfl
  omega

set_option maxHeartbeats 1000000 in
set_option maxRecDepth 4000 in
theorem shaSum_any (g : Nat) (s : S8) (a : Option Addr) (r : List UInt8) (cap size : Nat) (w : World) (hr : r.length ≤ 70368744177664) (hsz : size ≤ 562949953421312) (hst : Wds w g 175 s.toL) (hb : Bytes w a r) :
    Calls Tryz.prog 113 #[.pointer (some ⟨g, 0, none⟩), .slice a r.length cap, .int .i64 (size : Int)] w fun e w' => ∃ v, e = .returned v ∧ Own w' w.heap.size v (shaOut (eat sMix (sfin r size) s)) ∧ Below w.heap.size w w' := by
  obtain ⟨i0, hi, hz0, hz1, hz2⟩ := info_parts info5
  have HS : Hid (Wds w g 175 s.toL) := hst
  have hglt := HS.out.lt
  have hbd := pl_bd r.length
  clear hst
  go_enter Tryz.func113, Tryz.ntmps113
  go_wp2_with fail
  refine (padded_any a r cap _ (by omega) hb).mono ?_
  rintro e w1 ⟨rfl, hbt, hnx1⟩
  have HBT : Hid (Bts w1 w.heap.size (padL r)) := hbt
  have hpl := padL_length r
  generalize hP : pl r.length = p at *
  have HPL : Hid ((padL r).length = p) := hpl
  have HP : Hid (pl r.length = p) := hP
  clear hbt hP hpl
  go_wp2
  go_loopw [15] (fun i wr => ∃ k : Nat, k ≤ 8 ∧ i = .int .i64 k ∧ Bts wr w.heap.size (lay8 (padL r) (szb size) (fun j => p - 1 - j) k) ∧ Below w.heap.size w wr) (fun i _ => 8 - (intOf i).toNat)
  case atStart => exact ⟨0, by omega, rfl, HBT.out, hnx1⟩
  case round =>
    clear HBT hnx1
    obtain ⟨k, hk, rfl, hbt, hnx⟩ := hrel
    have HB : Hid (Bts wr w.heap.size (lay8 (padL r) (szb size) (fun j => p - 1 - j) k)) := hbt
    clear hbt
    by_cases hlt : k < 8
    · have hlen : p - 1 - k < (lay8 (padL r) (szb size) (fun j => p - 1 - j) k).length := by rw [lay8_length, HPL.out]; omega
      obtain ⟨old, hcell⟩ : ∃ old, wr.cell? ⟨w.heap.size, p - 1 - k, none⟩ = some (.int .u8 old) := ⟨_, HB.out.cell hlen⟩
      have hfr := HB.out.frozen (p - 1 - k)
      generalize hQ : p - 1 - k = q at *
      have hqi : (p : Int) - 1 - (k : Int) = ((q : Nat) : Int) := by omega
      have hqp : (q : Int) < (p : Int) := by omega
      have HQ : Hid (p - 1 - k = q) := hQ
      have hk8 : 8 * k ≤ 64 := by omega
      clear hQ hlen
      go_wp2
      go_roundw
      case rel =>
        refine ⟨k + 1, by omega, by go_num, ?_, ?_⟩
        · rw [lay8, HQ.out]
          have := HB.out.set q (szb size k)
          rw [szb_cell] at this
          exact this
        · exact hnx.setCell (Nat.le_refl _) _
      case measure => simp [intOf]; omega
    · obtain rfl : k = 8 := by omega
      have hfl : (lay8 (padL r) (szb size) (fun j => p - 1 - j) 8).length = p := by rw [lay8_length, HPL.out]
      have HFIN : Hid (sfin r size = lay8 (padL r) (szb size) (fun j => p - 1 - j) 8) := by
        show _ = _
        rw [sfin, HP.out]
      generalize lay8 (padL r) (szb size) (fun j => p - 1 - j) 8 = F at *
      subst hfl
      have hG : Wds wr g 175 s.toL := HS.out.below hnx hglt
      have HG : Hid (wr.heap[g]? = some (.cells (wcs s.toL).toArray 175 (0, 0))) := hG
      have hnew : (wr.alloc (.cells (wcs (zeros 8)).toArray 175)).heap[wr.heap.size]? = some (.cells (wcs (zeros 8)).toArray 175 (0, 0)) := heap_alloc_last wr _
      have HN : Hid _ := hnew
      have hwsz := hnx.size
      have hplt := HB.out.lt
      clear hG hnew HPL HP
      go_wp2_with (first
        | refine wpList_load_row rfl 175 _ rfl _ rfl 175 _ (0, 0) _ HG.out Tryz.underlying175 rfl size175 ?_
        | refine wpList_store_row rfl 175 _ _ rfl _ _ rfl rfl 175 _ HN.out size175 rfl (wcs_all _) ?_)
      have hE : Wds ((wr.alloc (.cells (wcs (zeros 8)).toArray 175)).setRow wr.heap.size (wcs s.toL).toArray) wr.heap.size 175 s.toL := setRow_heap _ _ _ _ _ _ HN.out
      have hnx2 : Below w.heap.size w ((wr.alloc (.cells (wcs (zeros 8)).toArray 175)).setRow wr.heap.size (wcs s.toL).toArray) :=
        (hnx.alloc hwsz _).trans ⟨rfl, rfl, rfl, by simp, fun j hj => setRow_other _ _ _ _ (by omega)⟩
      have hB2 : Bts ((wr.alloc (.cells (wcs (zeros 8)).toArray 175)).setRow wr.heap.size (wcs s.toL).toArray) w.heap.size F :=
        (HB.out.alloc _).other (setRow_other _ _ _ _ (by omega))
      have HC : Hid _ := shaTake_any wr.heap.size s (some ⟨w.heap.size, 0, none⟩) F F.length _ (Nat.le_refl _) (by omega) hE hB2.bytes (by intro _ ad h; cases h; show w.heap.size ≠ wr.heap.size; omega)
      clear hE hB2 HG HN HB
      refine Calls.mono HC.out ?_
      rintro e w3 ⟨ra, rc, rfl, _, _, _, hg3, hw3⟩
      have hnx3 : Below w.heap.size w w3 := hnx2.trans (grown_below hg3 hnx2.size (by omega))
      have HW3 : Hid (Wds w3 wr.heap.size 175 (eat sMix F s).toL) := hw3
      clear HC hg3 hw3 hnx2 hnx
      have HR : Hid (shaOut (eat sMix (sfin r size) s) = shaOut (eat sMix F s)) := by
        show _ = _
        rw [HFIN.out]
      generalize eat sMix F s = t at *
      have hs3 := hnx3.size
      have hl3 := HW3.out.lt
      have HI := fun k h w => index65 t k h w
      go_wp2_with (first
        | (at_make; refine wpList_make_own _ rfl _ _ 23 rfl w.heap.size 5 i0 (.int .u8 0) 1 Tryz.underlying23 hi hz0 hz1 _ _ _ 32 rfl rfl (by omega) (by rw [hz2]; decide) (by decide) (by omega) ?_; intro w4 hown4 hgrow4; have HW4 : Hid (w4.heap[wr.heap.size]? = some (.cells (wcs t.toL).toArray 175 (0, 0))) := HW3.out.grown hgrow4 (by simp))
        | refine wpList_load_row rfl 175 _ rfl _ rfl 175 _ (0, 0) _ HW4.out Tryz.underlying175 rfl size175 ?_)
      have hnx4 : Below w.heap.size w w4 := hnx3.grown hgrow4 (by omega) (by simp)
      have hs4 := hnx4.size
      go_loopw [10, 40] (fun v i wq => ∃ k : Nat, k ≤ 8 ∧ i = .int .i64 k ∧ v = .slice (some ⟨w3.heap.size, 0, none⟩) (4 * k) 32 ∧ wq.ownsRow w.heap.size 5 1 (.slice (some ⟨w3.heap.size, 0, none⟩) (4 * k) 32) (4 * k) (bcs ((t.toL.take k).flatMap (fun x => [wb x 3, wb x 2, wb x 1, wb x 0]))) ∧ Below w.heap.size w wq) (fun _ i _ => 8 - (intOf i).toNat)
      case atStart => exact ⟨0, by omega, rfl, rfl, hown4, hnx4⟩
      case round =>
        clear hown4 hgrow4 HW4 HW3 hnx4
        obtain ⟨k, hk, rfl, rfl, hown, hnx⟩ := hrel
        have hs5 := hnx.size
        by_cases hlt : k < 8
        · have hidx := HI k hlt
          have HO : Hid _ := shaOut_snoc t hlt
          generalize t.toL.getD k 0 = x at *
          have hlt' : (k : Int) < 8 := by omega
          have v0 := wb0 x
          have v1 := wb1 x
          have v2 := wb2 x
          have v3 := wb3 x
          have hbx := W_bd x
          clear HI
          go_wp2_with (at_builtin; refine wpList_append_fits _ rfl (.tmp 43) (.tmp 55) 23 rfl w.heap.size 5 i0 1 Tryz.underlying23 hi hz1 w3.heap.size (4 * k) 32 _ rfl (hown.alloc _) ⟨wr.heap.size, 0, none⟩ 4 4 [.int .u8 ((wb x 3).toNat : Int), .int .u8 ((wb x 2).toNat : Int), .int .u8 ((wb x 1).toNat : Int), .int .u8 ((wb x 0).toNat : Int)] rfl rfl (cell_four_new _ _ _ _ _ _) (four_one _ _ _ _) (by omega) ?_; intro w1q hown1 hgrow1)
          go_roundw
          case rel =>
            refine ⟨k + 1, by omega, by go_num, by rw [Nat.mul_add], ?_, ?_⟩
            · rw [HO.out, bcs_append]
              exact hown1
            · exact (hnx.alloc hs5 _).grown hgrow1 (by simp; omega) (by intro j hj; simp at hj; omega)
          case measure => simp [intOf]; omega
        · obtain rfl : k = 8 := by omega
          clear HI
          go_wp2
          go_ret
          refine ⟨_, rfl, ?_, hnx⟩
          rw [HR.out]
          unfold Own
          rw [show (shaOut t).length = 32 from rfl]
          exact hown
end Go.Proofs.YtnmffehmjgknkaaGreatDoor
