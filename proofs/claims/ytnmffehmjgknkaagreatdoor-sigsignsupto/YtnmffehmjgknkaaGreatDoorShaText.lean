/-
  The words of a block of SHA-256: hash.shaText by its contract.
-/
import Derived.Test.YtnmffehmjgknkaaGreatDoorMixA
namespace Go.Proofs.YtnmffehmjgknkaaGreatDoor
open Go.RowKit

/-- Four bytes as a word, the highest first. -/
def be4 (l : List UInt8) (k : Nat) : Wd := bw (l.getD k 0) <<< 24 ||| bw (l.getD (k + 1) 0) <<< 16 ||| bw (l.getD (k + 2) 0) <<< 8 ||| bw (l.getD (k + 3) 0)
theorem W_be4 (b0 b1 b2 b3 : UInt8) : bits .or .u32 (bits .or .u32 (bits .or .u32 ((b0.toNat : Int) * 16777216) ((b1.toNat : Int) * 65536)) ((b2.toNat : Int) * 256)) (b3.toNat : Int)
    = W (bw b0 <<< 24 ||| bw b1 <<< 16 ||| bw b2 <<< 8 ||| bw b3) := by
  rw [← W_bw b3, show (256 : Int) = (2 : Int) ^ 8 by decide, show (65536 : Int) = (2 : Int) ^ 16 by decide, show (16777216 : Int) = (2 : Int) ^ 24 by decide, W_bshl _ 8 (by decide), W_bshl _ 16 (by decide), W_bshl _ 24 (by decide), W_or, W_or, W_or]

def sig0 (x : Wd) : Wd := rotl x 25 ^^^ rotl x 14 ^^^ x >>> 3
def sig1 (x : Wd) : Wd := rotl x 15 ^^^ rotl x 13 ^^^ x >>> 10
/-- The next word. -/
def sNext (l : List UInt8) (t : List Wd) (k : Nat) : Wd := if k < 16 then be4 l (4 * k) else t.getD (k - 16) 0 + sig0 (t.getD (k - 15) 0) + t.getD (k - 7) 0 + sig1 (t.getD (k - 2) 0)
/-- The first k words. -/
def stL (l : List UInt8) : Nat → List Wd
  | 0 => []
  | k + 1 => stL l k ++ [sNext l (stL l k) k]
theorem stL_length (l : List UInt8) (k : Nat) : (stL l k).length = k := by
  induction k with
  | zero => rfl
  | succ k ih => simp [stL, ih]
def stx (l : List UInt8) (k : Nat) : List Wd := stL l k ++ zeros (64 - k)
theorem stx_length (l : List UInt8) {k : Nat} (h : k ≤ 64) : (stx l k).length = 64 := by simp [stx, zeros, stL_length]; omega
theorem stx_set (l : List UInt8) {k : Nat} (h : k < 64) : (stx l k).set k (sNext l (stL l k) k) = stx l (k + 1) := by
  unfold stx zeros
  rw [stL, List.set_append_right _ _ (by rw [stL_length]; exact Nat.le_refl _), stL_length, Nat.sub_self, show 64 - k = (64 - (k + 1)) + 1 from by omega, List.replicate_succ]
  simp
theorem stx_get (l : List UInt8) {k j : Nat} (hj : j < k) (_hk : k ≤ 64) (h : j < (stx l k).length) : (stx l k)[j] = (stL l k).getD j 0 := by
  have hj' : j < (stL l k).length := by rw [stL_length]; exact hj
  have e : (stx l k)[j]? = (stL l k)[j]? := by rw [stx, List.getElem?_append_left hj']
  rw [List.getElem?_eq_getElem h, List.getElem?_eq_getElem hj'] at e
  rw [Option.some.inj e, getD_at hj']

theorem rotl_neg' (x : Wd) (k : Int) (s : Nat) (y : Wd) (w : World) (hk : k = (s : Int) - 32) (hs : s < 32) (hy : rotl x s = y) :
    Calls Tryz.prog 233 #[.int .u32 (W x), .int .i64 k] w fun e w' => e = .returned (.int .u32 (W y)) ∧ w = w' := by
  subst hy
  exact rotl_neg x k s w hk hs
theorem W_shr3 (a : Wd) : W a / (8 : Int) = W (a >>> 3) := W_shr a 3
theorem W_shr10 (a : Wd) : W a / (1024 : Int) = W (a >>> 10) := W_shr a 10

set_option maxHeartbeats 1000000 in
set_option maxRecDepth 20000 in
theorem shaText_any (b off c : Nat) (l : List UInt8) (w : World) (hl : l.length = 64) (hc : 64 ≤ c) (hbl : b < w.heap.size)
    (hcs : ∀ j (h : j < l.length), w.cell? ⟨b, off + j, none⟩ = some (.int .u8 (l[j].toNat : Int))) :
    Calls Tryz.prog 201 #[.slice (some ⟨b, off, none⟩) 64 c] w fun e w' => e = .returned (.agg (wcs (stL l 64)).toArray) ∧ Below w.heap.size w w' := by
  have HL : Hid (l.length = 64) := hl
  have HCS : Hid (∀ j (h : j < l.length), w.cell? ⟨b, off + j, none⟩ = some (.int .u8 (l[j].toNat : Int))) := hcs
  clear hl hcs
  have hz := fun w => (zero_of_info (P := Tryz.prog) (t := 176) (v := .agg (wcs (zeros 64)).toArray) (n := 64) (by kernel_rfl)).1 w
  go_enter Tryz.func201, Tryz.ntmps201
  go_wp2
  clear hz
  go_loopw [8] (fun i wr => ∃ k : Nat, k ≤ 64 ∧ i = .int .i64 k ∧ Wds wr (w.heap.size + 1) 176 (stx l k) ∧ Wds wr w.heap.size 176 (zeros 64) ∧ Below w.heap.size w wr) (fun i _ => 64 - (intOf i).toNat)
  case atStart => exact ⟨0, by omega, rfl, Wds.new' (by simp) (by rfl), (Wds.new' rfl (by rfl)).alloc _, ((Below.refl _ _).alloc (Nat.le_refl _) _).alloc (by simp) _⟩
  case round =>
    obtain ⟨k, hk, rfl, hws, hzs, hnx⟩ := hrel
    have HW : Hid (Wds wr (w.heap.size + 1) 176 (stx l k)) := hws
    have HZ : Hid (Wds wr w.heap.size 176 (zeros 64)) := hzs
    clear hws hzs
    have hsz := HW.out.lt
    by_cases hlt : k < 64
    · have hlt' : (k : Int) < 64 := by omega
      have hold := HW.out.cell (k := k) (by rw [stx_length l hk]; exact hlt)
      have hfr := HW.out.frozen k
      by_cases h16 : k < 16
      · have q0 : wr.cell? ⟨b, off + 4 * k, none⟩ = some (.int .u8 ((l.getD (4 * k) 0).toNat : Int)) := (hnx.cell (p := ⟨b, off + 4 * k, none⟩) hbl).trans (Bytes.getD HCS.out (k := 4 * k) (by rw [HL.out]; omega))
        have q1 : wr.cell? ⟨b, off + 4 * k + 1, none⟩ = some (.int .u8 ((l.getD (4 * k + 1) 0).toNat : Int)) := (hnx.cell (p := ⟨b, off + 4 * k + 1, none⟩) hbl).trans (Bytes.getD HCS.out (k := 4 * k + 1) (by rw [HL.out]; omega))
        have q2 : wr.cell? ⟨b, off + 4 * k + 2, none⟩ = some (.int .u8 ((l.getD (4 * k + 2) 0).toNat : Int)) := (hnx.cell (p := ⟨b, off + 4 * k + 2, none⟩) hbl).trans (Bytes.getD HCS.out (k := 4 * k + 2) (by rw [HL.out]; omega))
        have q3 : wr.cell? ⟨b, off + 4 * k + 3, none⟩ = some (.int .u8 ((l.getD (4 * k + 3) 0).toNat : Int)) := (hnx.cell (p := ⟨b, off + 4 * k + 3, none⟩) hbl).trans (Bytes.getD HCS.out (k := 4 * k + 3) (by rw [HL.out]; omega))
        generalize hB0 : l.getD (4 * k) 0 = b0 at *
        generalize hB1 : l.getD (4 * k + 1) 0 = b1 at *
        generalize hB2 : l.getD (4 * k + 2) 0 = b2 at *
        generalize hB3 : l.getD (4 * k + 3) 0 = b3 at *
        have HE : Hid (sNext l (stL l k) k = bw b0 <<< 24 ||| bw b1 <<< 16 ||| bw b2 <<< 8 ||| bw b3) := by
          show _ = _
          rw [sNext, if_pos h16, be4, hB0, hB1, hB2, hB3]
        clear hB0 hB1 hB2 hB3
        have e0 := b0.toNat_lt
        have e1 := b1.toNat_lt
        have e2 := b2.toNat_lt
        have e3 := b3.toNat_lt
        have hne : b ≠ w.heap.size + 1 := by omega
        have hq' : (k : Int) / 16 = 0 := by omega
        have hn0 : (0 : Int) < ((64 - 4 * k : Nat) : Int) := by omega
        have hn1 : (1 : Int) < ((64 - 4 * k : Nat) : Int) := by omega
        have hn2 : (2 : Int) < ((64 - 4 * k : Nat) : Int) := by omega
        have hn3 : (3 : Int) < ((64 - 4 * k : Nat) : Int) := by omega
        go_wp2_with fail
        go_region
        go_wp2
        go_roundw
        case rel =>
          refine ⟨k + 1, by omega, by go_num, ?_, ?_, ?_⟩
          · rw [W_be4, ← HE.out, ← stx_set l hlt]
            exact HW.out.set k _
          · exact HZ.out.setCell (by simp) _
          · exact (hnx.setCell (by simp) _).drew
        case measure => simp [intOf]; omega
      · obtain ⟨k16, hk16⟩ : ∃ m, k = m + 16 := ⟨k - 16, by omega⟩
        have c16 := HW.out.cell (k := k16) (by rw [stx_length l hk]; omega)
        have c15 := HW.out.cell (k := k16 + 1) (by rw [stx_length l hk]; omega)
        have c7 := HW.out.cell (k := k16 + 9) (by rw [stx_length l hk]; omega)
        have c2 := HW.out.cell (k := k16 + 14) (by rw [stx_length l hk]; omega)
        rw [stx_get l (by omega) hk] at c16 c15 c7 c2
        have HE : Hid (sNext l (stL l k) k = (stL l k).getD k16 0 + sig0 ((stL l k).getD (k16 + 1) 0) + (stL l k).getD (k16 + 9) 0 + sig1 ((stL l k).getD (k16 + 14) 0)) := by
          show _ = _
          rw [sNext, if_neg h16, show k - 16 = k16 from by omega, show k - 15 = k16 + 1 from by omega, show k - 7 = k16 + 9 from by omega, show k - 2 = k16 + 14 from by omega]
        generalize hT : stL l k = T at HE c16 c15 c7 c2
        have HT : Hid (stL l k = T) := hT
        clear hT
        generalize T.getD k16 0 = t16 at *
        generalize T.getD (k16 + 1) 0 = t15 at *
        generalize T.getD (k16 + 9) 0 = t7 at *
        generalize T.getD (k16 + 14) 0 = t2 at *
        have i16 : (k : Int) - 16 = ((k16 : Nat) : Int) := by omega
        have i15 : (k : Int) - 15 = ((k16 + 1 : Nat) : Int) := by omega
        have i7 : (k : Int) - 7 = ((k16 + 9 : Nat) : Int) := by omega
        have i2 : (k : Int) - 2 = ((k16 + 14 : Nat) : Int) := by omega
        generalize hj15 : k16 + 1 = k15 at *
        generalize hj7 : k16 + 9 = k7 at *
        generalize hj2 : k16 + 14 = k2 at *
        have l16 : (k16 : Int) < 64 := by omega
        have l15 : (k15 : Int) < 64 := by omega
        have l7 : (k7 : Int) < 64 := by omega
        have l2 : (k2 : Int) < 64 := by omega
        have hq0 : ((k : Int) / 16 == 0) = false := by simp; omega
        have HK : Hid (k = k16 + 16) := hk16
        clear hj15 hj7 hj2 hk16 h16
        generalize hv1 : rotl t15 25 = v1
        generalize hv2 : rotl t15 14 = v2
        have x1 := W_xor v1 v2
        generalize hv3 : v1 ^^^ v2 = v3 at x1
        have x2 := W_shr3 t15
        generalize hu3 : t15 >>> 3 = u3s at x2
        have x3 := W_xor v3 u3s
        generalize hv4 : v3 ^^^ u3s = v4 at x3
        generalize hv5 : rotl t2 15 = v5
        generalize hv6 : rotl t2 13 = v6
        have y1 := W_xor v5 v6
        generalize hv7 : v5 ^^^ v6 = v7 at y1
        have y2 := W_shr10 t2
        generalize hu10 : t2 >>> 10 = u10s at y2
        have y3 := W_xor v7 u10s
        generalize hv8 : v7 ^^^ u10s = v8 at y3
        have a1 := W_addm t16 v4
        generalize hx1 : t16 + v4 = x16 at a1
        have a2 := W_addm x16 t7
        generalize hx2 : x16 + t7 = x7 at a2
        have a3 := W_addm x7 v8
        generalize hx3 : x7 + v8 = xx at a3
        have HX : Hid (xx = sNext l (stL l k) k) := by
          show _ = _
          rw [HT.out, HE.out, ← hx3, ← hx2, ← hx1, ← hv8, ← hv7, ← hv5, ← hv6, ← hv4, ← hv3, ← hv1, ← hv2, ← hu3, ← hu10]
          rfl
        clear hv3 hv4 hv7 hv8 hx1 hx2 hx3 hu3 hu10
        have H1 : Hid (rotl t15 25 = v1) := hv1
        have H2 : Hid (rotl t15 14 = v2) := hv2
        have H5 : Hid (rotl t2 15 = v5) := hv5
        have H6 : Hid (rotl t2 13 = v6) := hv6
        clear hv1 hv2 hv5 hv6
        go_wp2_with fail
        go_quiet (fail)
        go_wp2_with fail
        refine (rotl_neg' t15 (-7) 25 v1 _ (by decide) (by decide) H1.out).mono ?_
        rintro e w' ⟨rfl, rfl⟩
        go_wp2_with fail
        refine (rotl_neg' t15 (-18) 14 v2 _ (by decide) (by decide) H2.out).mono ?_
        rintro e w' ⟨rfl, rfl⟩
        go_wp2_with fail
        refine (rotl_neg' t2 (-17) 15 v5 _ (by decide) (by decide) H5.out).mono ?_
        rintro e w' ⟨rfl, rfl⟩
        go_wp2_with fail
        refine (rotl_neg' t2 (-19) 13 v6 _ (by decide) (by decide) H6.out).mono ?_
        rintro e w' ⟨rfl, rfl⟩
        go_wp2_with fail
        go_region
        go_wp2
        go_roundw
        case rel =>
          refine ⟨k + 1, by omega, by go_num, ?_, ?_, ?_⟩
          · rw [HX.out, ← stx_set l hlt]
            exact HW.out.set k _
          · exact HZ.out.setCell (by simp) _
          · exact Below.setCell (p := ⟨w.heap.size + 1, k, none⟩) (below_drewN hnx _) (Nat.le_succ _) _
        case measure => simp [intOf]; omega
    · obtain rfl : k = 64 := by omega
      have hz := HZ.out
      have hc2 := HW.out
      have e64 : stx l 64 = stL l 64 := by simp [stx, zeros]
      rw [e64] at hc2
      unfold Wds at hz hc2
      have HZ2 : Hid _ := hz
      have HC2 : Hid _ := hc2
      clear hz hc2
      have hs64 : (Tryz.prog.info? 176).map (·.size) = some (wcs (stL l 64)).toArray.size := by rw [size176, List.size_toArray, wcs_length, stL_length]
      have HS64 : Hid _ := hs64
      clear hs64
      go_wp2_with (first
        | refine wpList_load_row rfl 176 _ rfl _ rfl 176 _ (0, 0) _ HC2.out Tryz.underlying176 rfl HS64.out ?_
        | refine wpList_store_row rfl 176 _ _ rfl _ _ rfl rfl 176 _ HZ2.out HS64.out (by simp [wcs_length, stL_length, zeros]) (wcs_all _) ?_)
      refine bodyPost_ret (results_cell_row rfl _ _ w.heap.size 176 _ (0, 0) _ rfl (setRow_heap _ _ _ _ _ _ HZ2.out) Tryz.underlying176 rfl HS64.out) rfl ?_
      exact ⟨rfl, hnx.trans ⟨rfl, rfl, rfl, by simp, fun j hj => setRow_other _ _ _ _ (by omega)⟩⟩
end Go.Proofs.YtnmffehmjgknkaaGreatDoor
