/-
  hash.crcWords and hash.CRC by their contracts.
-/
import Derived.Test.YtpmjkgpmidejoaaWds
namespace Go.Proofs.Ytpmjkgpmidejoaa
open Go.RowKit

/-- Castagnoli's polynomial. -/
def poly : Wd := 0x82F63B78
/-- One step of CRC-32C. -/
def crcBit (c : BitVec 32) : BitVec 32 := c >>> 1 ^^^ (c &&& 1) * poly
def crcBits : Nat → BitVec 32 → BitVec 32
  | 0, c => c
  | n + 1, c => crcBit (crcBits n c)

theorem W_shr1 (a : BitVec 32) : W a / (2 : Int) = W (a >>> 1) := W_shr a 1
theorem W_and1 (a : BitVec 32) : bits .and .u32 (W a) 1 = W (a &&& 1) := W_and a 1
theorem W_mulm (a b : BitVec 32) : W a * W b % 4294967296 = W (a * b) := by
  unfold W
  rw [BitVec.toNat_mul]
  omega
theorem W_poly : (2197175160 : Int) = W poly := by decide +kernel
theorem W_mulp (a : BitVec 32) : W a * 2197175160 % 4294967296 = W (a * poly) := by rw [W_poly]; exact W_mulm a poly
theorem W_and1_le (a : BitVec 32) : W (a &&& 1) ≤ 1 := by
  unfold W
  rw [BitVec.toNat_and]
  have : a.toNat &&& (1 : BitVec 32).toNat ≤ 1 := Nat.and_le_right
  omega
theorem W_mul1 (a : BitVec 32) : W (a &&& 1) * 2197175160 = W ((a &&& 1) * poly) := by
  rw [← W_mulp]
  have := W_and1_le a
  have := W_lo (a &&& 1)
  omega
theorem W_ofNat {k : Nat} (h : k < 4294967296) : W (BitVec.ofNat 32 k) = (k : Int) := by
  unfold W
  rw [BitVec.toNat_ofNat, Nat.mod_eq_of_lt (by omega)]

/-- The words made so far. -/
def cw (k : Nat) : List Wd := (List.range k).map (fun j => crcBits 4 (BitVec.ofNat 32 j)) ++ zeros (16 - k)
theorem cw_length {k : Nat} (h : k ≤ 16) : (cw k).length = 16 := by simp [cw, zeros]; omega
theorem cw_set {k : Nat} (h : k < 16) : (cw k).set k (crcBits 4 (BitVec.ofNat 32 k)) = cw (k + 1) := by
  unfold cw zeros
  rw [List.range_succ, List.map_append, List.set_append_right _ _ (by simp)]
  simp only [List.length_map, List.length_range, Nat.sub_self]
  rw [show 16 - k = (16 - (k + 1)) + 1 from by omega, List.replicate_succ]
  simp

theorem crcWords_any (w : World) : Calls Try.prog 90 #[] w fun e w' => e = .returned (.agg (wcs (cw 16)).toArray) ∧ Below w.heap.size w w' := by
  go_enter Try.func90, Try.ntmps90
  go_wp2
  go_loopw [4] (fun i wr => ∃ k : Nat, k ≤ 16 ∧ i = .int .i64 k ∧ Wds wr (w.heap.size + 1) 152 (cw k) ∧ Wds wr w.heap.size 152 (zeros 16) ∧ Below w.heap.size w wr)
    (fun i _ => 16 - (intOf i).toNat)
  case atStart =>
    refine ⟨0, by omega, rfl, Wds.new' (by simp) (by rfl), (Wds.new' rfl (by rfl)).alloc _, ((Below.refl _ _).alloc (Nat.le_refl _) _).alloc (by simp) _⟩
  case round =>
    obtain ⟨k, hk, rfl, hc, hz, hnx⟩ := hrel
    have HC : Hid (Wds wr (w.heap.size + 1) 152 (cw k)) := hc
    have HZ : Hid (Wds wr w.heap.size 152 (zeros 16)) := hz
    clear hc hz
    by_cases hlt : k < 16
    · have hcell := HC.out.cell (k := k) (by rw [cw_length hk]; exact hlt)
      have hfr := HC.out.frozen k
      have hlt' : (k : Int) < 16 := by omega
      go_wp2
      obtain ⟨wo, e⟩ : ∃ x, x = wr := ⟨_, rfl⟩
      subst e
      go_loopw [3, 9] (fun c j wr' => ∃ m : Nat, m ≤ 4 ∧ j = .int .i64 m ∧ c = .int .u32 (W (crcBits m (BitVec.ofNat 32 k))) ∧ wr' = wo) (fun _ j _ => 4 - (intOf j).toNat)
      case atStart => exact ⟨0, by omega, rfl, by rw [crcBits, W_ofNat (by omega)], rfl⟩
      case round =>
        obtain ⟨m, hm, rfl, rfl, rfl⟩ := hrel
        have hbd := W_bd (crcBits m (BitVec.ofNat 32 k))
        by_cases hml : m < 4
        · generalize hX : crcBits m (BitVec.ofNat 32 k) = x at *
          have HX : Hid (crcBits m (BitVec.ofNat 32 k) = x) := hX
          clear hX hbd
          go_wp2_with fail
          go_roundw
          case rel =>
            refine ⟨m + 1, by omega, by go_num, ?_, trivial⟩
            rw [crcBits, HX.out, W_shr1, W_and1, W_mulp, W_xor]
            rfl
          case measure => simp [intOf]; omega
        · obtain rfl : m = 4 := by omega
          go_wp2
          go_roundw
          case rel =>
            refine ⟨k + 1, by omega, by go_num, ?_, ?_, ?_⟩
            · rw [← cw_set hlt]
              exact HC.out.set k _
            · exact HZ.out.setCell (by simp) _
            · exact hnx.setCell (by simp) _
          case measure => simp [intOf]; omega
    · obtain rfl : k = 16 := by omega
      have hz := HZ.out
      have hc := HC.out
      unfold Wds at hz hc
      have HZ2 : Hid _ := hz
      have HC2 : Hid _ := hc
      clear hz hc
      go_wp2_with (first
        | refine wpList_load_row rfl 152 _ rfl _ rfl 152 _ (0, 0) _ HC2.out Try.underlying152 rfl size152 ?_
        | refine wpList_store_row rfl 152 _ _ rfl _ _ rfl rfl 152 _ HZ2.out size152 rfl (wcs_all _) ?_)
      refine bodyPost_ret (results_cell_row rfl _ _ w.heap.size 152 _ (0, 0) _ rfl (setRow_heap _ _ _ _ _ _ HZ2.out) Try.underlying152 rfl size152) rfl ?_
      exact ⟨rfl, hnx.trans ⟨rfl, rfl, rfl, by simp, fun j hj => setRow_other _ _ _ _ (by omega)⟩⟩

/-- Four steps by the table. -/
def nib (x : Wd) : Wd := x >>> 4 ^^^ crcBits 4 (x &&& 15)
def crcByte (c : Wd) (b : UInt8) : Wd := nib (nib (c ^^^ bw b))
def crcL (l : List UInt8) : Wd := ~~~ (l.foldl crcByte 0xFFFFFFFF)

theorem and15_lt (x : Wd) : (x &&& 15).toNat < 16 := by
  rw [BitVec.toNat_and]
  have : x.toNat &&& (15 : BitVec 32).toNat ≤ (15 : BitVec 32).toNat := Nat.and_le_right
  have e : (15 : BitVec 32).toNat = 15 := rfl
  omega
theorem W_and15 (x : Wd) : bits .and .u32 (W x) 15 = (((x &&& 15).toNat : Nat) : Int) := W_and x 15
theorem cw_get (i : Nat) (h : i < (cw 16).length) : (cw 16)[i] = crcBits 4 (BitVec.ofNat 32 i) := by
  have h' : i < 16 := by rw [cw_length (Nat.le_refl _)] at h; exact h
  simp [cw, zeros]
theorem cw_at (x : Wd) (h : (x &&& 15).toNat < (cw 16).length) : (cw 16)[(x &&& 15).toNat] = crcBits 4 (x &&& 15) := by
  rw [cw_get]
  congr 1
  exact BitVec.eq_of_toNat_eq (by simp)
theorem W_shr4 (a : Wd) : W a / (16 : Int) = W (a >>> 4) := W_shr a 4
theorem W_xorb (c : Wd) (b : UInt8) : bits .xor .u32 (W c) (b.toNat : Int) = W (c ^^^ bw b) := by rw [← W_bw, W_xor]
theorem W_not (a : Wd) : bits .xor .u32 IntKind.u32.max (W a) = W (~~~ a) := by
  have e : IntKind.u32.max = W (BitVec.allOnes 32) := by decide +kernel
  rw [e, W_xor, BitVec.allOnes_xor]
theorem all1 : (4294967295 : Int) = W 0xFFFFFFFF := by decide +kernel

set_option maxHeartbeats 400000 in
theorem crc_any (a : Option Addr) (l : List UInt8) (cap : Nat) (w : World) (hl : l.length ≤ 140737488351232) (hb : Bytes w a l) :
    Calls Try.prog 87 #[.slice a l.length cap] w fun e w' => e = .returned (.int .u32 (W (crcL l))) ∧ Below w.heap.size w w' := by
  go_enter Try.func87, Try.ntmps87
  go_wp2_with fail
  refine (crcWords_any _).mono ?_
  rintro e w1 ⟨rfl, hb1⟩
  have hnew : (w1.alloc (.cells (wcs (zeros 16)).toArray 152)).heap[w1.heap.size]? = some (.cells (wcs (zeros 16)).toArray 152 (0, 0)) := heap_alloc_last w1 _
  have HN : Hid _ := hnew
  clear hnew
  go_wp2_with (refine wpList_store_row rfl 152 _ _ rfl _ _ rfl rfl 152 _ HN.out size152 rfl (wcs_all _) ?_)
  go_loopw [4, 10] (fun c i wr => ∃ k : Nat, k ≤ l.length ∧ i = .int .i64 k ∧ c = .int .u32 (W ((l.take k).foldl crcByte 0xFFFFFFFF)) ∧ Wds wr w1.heap.size 152 (cw 16) ∧ Below w.heap.size w wr)
    (fun _ i _ => l.length - (intOf i).toNat)
  case atStart =>
    refine ⟨0, Nat.zero_le _, rfl, by rw [List.take_zero, List.foldl_nil, ← all1], setRow_heap _ _ _ _ _ _ HN.out, ?_⟩
    exact (hb1.alloc hb1.size _).trans ⟨rfl, rfl, rfl, by simp, fun j hj => setRow_other _ _ _ _ (by have := hb1.size; omega)⟩
  case round =>
    obtain ⟨k, hk, rfl, rfl, hws, hnx⟩ := hrel
    have HW : Hid (Wds wr w1.heap.size 152 (cw 16)) := hws
    clear hws
    generalize hC : (l.take k).foldl crcByte 0xFFFFFFFF = c
    have HC : Hid ((l.take k).foldl crcByte 0xFFFFFFFF = c) := hC
    clear hC
    by_cases hlt : k < l.length
    · obtain ⟨b, off, rfl, hbl, hcs⟩ := hb.at hlt
      have hcell : wr.cell? ⟨b, off + k, none⟩ = some (.int .u8 (l[k].toNat : Int)) := (hnx.cell (p := ⟨b, off + k, none⟩) hbl).trans (hcs k hlt)
      clear hcs hb
      have hc255 : (l[k].toNat : Int) ≤ 255 := by have := l[k].toNat_lt; omega
      generalize hB : l[k] = bb at *
      have HB : Hid (l[k] = bb) := hB
      clear hB
      have q1 := W_xorb c bb
      generalize hX : c ^^^ bw bb = x at *
      have q2 := W_and15 x
      have q3 := and15_lt x
      have q4 := HW.out.cell (k := (x &&& 15).toNat) (by rw [cw_length (Nat.le_refl _)]; exact q3)
      rw [cw_at] at q4
      generalize (x &&& 15).toNat = i1 at q2 q3 q4
      have q5 := W_shr4 x
      have q6 : bits .xor .u32 (W (x >>> 4)) (W (crcBits 4 (x &&& 15))) = W (nib x) := W_xor _ _
      have r2 := W_and15 (nib x)
      have r3 := and15_lt (nib x)
      have r4 := HW.out.cell (k := (nib x &&& 15).toNat) (by rw [cw_length (Nat.le_refl _)]; exact r3)
      rw [cw_at] at r4
      generalize (nib x &&& 15).toNat = i2 at r2 r3 r4
      have r5 := W_shr4 (nib x)
      have r6 : bits .xor .u32 (W (nib x >>> 4)) (W (crcBits 4 (nib x &&& 15))) = W (nib (nib x)) := W_xor _ _
      have HX : Hid (c ^^^ bw bb = x) := hX
      clear hX
      have b1 := W_bd x
      have b2 := W_bd (nib x)
      generalize hY2 : nib (nib x) = y2 at *
      generalize hY : nib x = y at *
      have HY2 : Hid (nib y = y2) := hY2
      have HY : Hid (nib x = y) := hY
      generalize crcBits 4 (x &&& 15) = v1 at *
      generalize crcBits 4 (y &&& 15) = v2 at *
      generalize x >>> 4 = x4 at *
      generalize y >>> 4 = y4 at *
      clear hY hY2
      go_wp2
      go_roundw
      case rel =>
        refine ⟨k + 1, by omega, by go_num, ?_, HW.out, hnx⟩
        rw [List.take_succ_eq_append_getElem hlt, List.foldl_append, HC.out, List.foldl_cons, List.foldl_nil, HB.out, crcByte, HX.out, HY.out, HY2.out]
      case measure => simp [intOf]; omega
    · obtain rfl : k = l.length := by omega
      rw [List.take_length] at HC
      have b1 := W_bd c
      go_wp2
      go_ret
      exact ⟨ret_int (by rw [W_not, crcL, HC.out]), hnx⟩
end Go.Proofs.Ytpmjkgpmidejoaa
