/-
  hash.crcWords and hash.CRC by their contracts.
-/
import Derived.Test.YtpmjkgpmidejoaaRun05
import Derived.Test.YtpmjkgpmidejoaaRun01
namespace Go.Proofs.Ytpmjkgpmidejoaa
open Go.RowKit

/-- Castagnoli's polynomial. -/
def poly : Wd := 0x82F63B78
/-- One step of CRC-32C. -/
def crcBit (c : BitVec 32) : BitVec 32 := c >>> 1 ^^^ (c &&& 1) * poly
def crcBits : Nat → BitVec 32 → BitVec 32
  | 0, c => c
  | n + 1, c => crcBit (crcBits n c)

theorem W_shr1 (a : BitVec 32) : W a / (2 : Int) = W (a >>> 1) := W_shr a 1
theorem W_and1 (a : BitVec 32) : bits .and .u32 (W a) 1 = W (a &&& 1) := W_and a 1
theorem W_mulm (a b : BitVec 32) : W a * W b % 4294967296 = W (a * b) := by
  unfold W
  rw [BitVec.toNat_mul]
  omega
theorem W_poly : (2197175160 : Int) = W poly := by decide +kernel
theorem W_mulp (a : BitVec 32) : W a * 2197175160 % 4294967296 = W (a * poly) := by rw [W_poly]; exact W_mulm a poly
theorem W_and1_le (a : BitVec 32) : W (a &&& 1) ≤ 1 := by
  unfold W
  rw [BitVec.toNat_and]
  have : a.toNat &&& (1 : BitVec 32).toNat ≤ 1 := Nat.and_le_right
  omega
theorem W_mul1 (a : BitVec 32) : W (a &&& 1) * 2197175160 = W ((a &&& 1) * poly) := by
  rw [← W_mulp]
  have := W_and1_le a
  have := W_lo (a &&& 1)
  omega
theorem W_ofNat {k : Nat} (h : k < 4294967296) : W (BitVec.ofNat 32 k) = (k : Int) := by
  unfold W
  rw [BitVec.toNat_ofNat, Nat.mod_eq_of_lt (by omega)]

/-- The words made so far. -/
def cw (k : Nat) : List Wd := (List.range k).map (fun j => crcBits 4 (BitVec.ofNat 32 j)) ++ zeros (16 - k)
theorem cw_length {k : Nat} (h : k ≤ 16) : (cw k).length = 16 := by simp [cw, zeros]; omega
theorem cw_set {k : Nat} (h : k < 16) : (cw k).set k (crcBits 4 (BitVec.ofNat 32 k)) = cw (k + 1) := by
  unfold cw zeros
  rw [List.range_succ, List.map_append, List.set_append_right _ _ (by simp)]
  simp only [List.length_map, List.length_range, Nat.sub_self]
  rw [show 16 - k = (16 - (k + 1)) + 1 from by omega, List.replicate_succ]
  simp

theorem crcWords_any (w : World) : Calls Try.prog 90 #[] w fun e w' => e = .returned (.agg (wcs (cw 16)).toArray) ∧ Below w.heap.size w w' := by
  go_enter Try.func90, Try.ntmps90
  go_wp2
  go_loopw [4] (fun i wr => ∃ k : Nat, k ≤ 16 ∧ i = .int .i64 k ∧ Wds wr (w.heap.size + 1) 152 (cw k) ∧ Wds wr w.heap.size 152 (zeros 16) ∧ Below w.heap.size w wr)
    (fun i _ => 16 - (intOf i).toNat)
  case atStart =>
    refine ⟨0, by omega, rfl, Wds.new' (by simp) (by rfl), (Wds.new' rfl (by rfl)).alloc _, ((Below.refl _ _).alloc (Nat.le_refl _) _).alloc (by simp) _⟩
  case round =>
    obtain ⟨k, hk, rfl, hc, hz, hnx⟩ := hrel
    have HC : Hid (Wds wr (w.heap.size + 1) 152 (cw k)) := hc
    have HZ : Hid (Wds wr w.heap.size 152 (zeros 16)) := hz
    clear hc hz
    by_cases hlt : k < 16
    · have hcell := HC.out.cell (k := k) (by rw [cw_length hk]; exact hlt)
      have hfr := HC.out.frozen k
      have hlt' : (k : Int) < 16 := by omega
      go_wp2
      obtain ⟨wo, e⟩ : ∃ x, x = wr := ⟨_, rfl⟩
      subst e
      go_loopw [3, 9] (fun c j wr' => ∃ m : Nat, m ≤ 4 ∧ j = .int .i64 m ∧ c = .int .u32 (W (crcBits m (BitVec.ofNat 32 k))) ∧ wr' = wo) (fun _ j _ => 4 - (intOf j).toNat)
      case atStart => exact ⟨0, by omega, rfl, by rw [crcBits, W_ofNat (by omega)], rfl⟩
      case round =>
        obtain ⟨m, hm, rfl, rfl, rfl⟩ := hrel
        have hbd := W_bd (crcBits m (BitVec.ofNat 32 k))
        by_cases hml : m < 4
        · generalize hX : crcBits m (BitVec.ofNat 32 k) = x at *
          have HX : Hid (crcBits m (BitVec.ofNat 32 k) = x) := hX
          clear hX hbd
          go_wp2_with fail
          go_roundw
          case rel =>
            refine ⟨m + 1, by omega, by go_num, ?_, trivial⟩
            rw [crcBits, HX.out, W_shr1, W_and1, W_mulp, W_xor]
            rfl
          case measure => simp [intOf]; omega
        · obtain rfl : m = 4 := by omega
          go_wp2
          go_roundw
          case rel =>
            refine ⟨k + 1, by omega, by go_num, ?_, ?_, ?_⟩
            · rw [← cw_set hlt]
              exact HC.out.set k _
            · exact HZ.out.setCell (by simp) _
            · exact hnx.setCell (by simp) _
          case measure => simp [intOf]; omega
    · obtain rfl : k = 16 := by omega
      have hz := HZ.out
      have hc := HC.out
      unfold Wds at hz hc
      have HZ2 : Hid _ := hz
      have HC2 : Hid _ := hc
      clear hz hc
      go_wp2_with (first
        | refine wpList_load_row rfl 152 _ rfl _ rfl 152 _ (0, 0) _ HC2.out Try.underlying152 rfl size152 ?_
        | refine wpList_store_row rfl 152 _ _ rfl _ _ rfl rfl 152 _ HZ2.out size152 rfl (wcs_all _) ?_)
      refine bodyPost_ret (results_cell_row rfl _ _ w.heap.size 152 _ (0, 0) _ rfl (setRow_heap _ _ _ _ _ _ HZ2.out) Try.underlying152 rfl size152) rfl ?_
      exact ⟨rfl, hnx.trans ⟨rfl, rfl, rfl, by simp, fun j hj => setRow_other _ _ _ _ (by omega)⟩⟩

/-- Four steps by the table. -/
def nib (x : Wd) : Wd := x >>> 4 ^^^ crcBits 4 (x &&& 15)
def crcByte (c : Wd) (b : UInt8) : Wd := nib (nib (c ^^^ bw b))
def crcL (l : List UInt8) : Wd := ~~~ (l.foldl crcByte 0xFFFFFFFF)

theorem and15_lt (x : Wd) : (x &&& 15).toNat < 16 := by
  rw [BitVec.toNat_and]
  have : x.toNat &&& (15 : BitVec 32).toNat ≤ (15 : BitVec 32).toNat := Nat.and_le_right
  have e : (15 : BitVec 32).toNat = 15 := rfl
  omega
theorem W_and15 (x : Wd) : bits .and .u32 (W x) 15 = (((x &&& 15).toNat : Nat) : Int) := W_and x 15
theorem cw_get (i : Nat) (h : i < (cw 16).length) : (cw 16)[i] = crcBits 4 (BitVec.ofNat 32 i) := by
  have h' : i < 16 := by rw [cw_length (Nat.le_refl _)] at h; exact h
  simp [cw, zeros]
theorem cw_at (x : Wd) (h : (x &&& 15).toNat < (cw 16).length) : (cw 16)[(x &&& 15).toNat] = crcBits 4 (x &&& 15) := by
  rw [cw_get]
  congr 1
  exact BitVec.eq_of_toNat_eq (by simp)
theorem W_shr4 (a : Wd) : W a / (16 : Int) = W (a >>> 4) := W_shr a 4
theorem W_xorb (c : Wd) (b : UInt8) : bits .xor .u32 (W c) (b.toNat : Int) = W (c ^^^ bw b) := by rw [← W_bw, W_xor]
theorem W_not (a : Wd) : bits .xor .u32 IntKind.u32.max (W a) = W (~~~ a) := by
  have e : IntKind.u32.max = W (BitVec.allOnes 32) := by decide +kernel
  rw [e, W_xor, BitVec.allOnes_xor]
theorem all1 : (4294967295 : Int) = W 0xFFFFFFFF := by decide +kernel

set_option maxHeartbeats 400000 in
theorem crc_any (a : Option Addr) (l : List UInt8) (cap : Nat) (w : World) (hl : l.length ≤ 140737488351232) (hb : Bytes w a l) :
    Calls Try.prog 87 #[.slice a l.length cap] w fun e w' => e = .returned (.int .u32 (W (crcL l))) ∧ Below w.heap.size w w' := by
  go_enter Try.func87, Try.ntmps87
  go_wp2_with fail
  refine (crcWords_any _).mono ?_
  rintro e w1 ⟨rfl, hb1⟩
  have hnew : (w1.alloc (.cells (wcs (zeros 16)).toArray 152)).heap[w1.heap.size]? = some (.cells (wcs (zeros 16)).toArray 152 (0, 0)) := heap_alloc_last w1 _
  have HN : Hid _ := hnew
  clear hnew
  go_wp2_with (refine wpList_store_row rfl 152 _ _ rfl _ _ rfl rfl 152 _ HN.out size152 rfl (wcs_all _) ?_)
  go_loopw [4, 10] (fun c i wr => ∃ k : Nat, k ≤ l.length ∧ i = .int .i64 k ∧ c = .int .u32 (W ((l.take k).foldl crcByte 0xFFFFFFFF)) ∧ Wds wr w1.heap.size 152 (cw 16) ∧ Below w.heap.size w wr)
    (fun _ i _ => l.length - (intOf i).toNat)
  case atStart =>
    refine ⟨0, Nat.zero_le _, rfl, by rw [List.take_zero, List.foldl_nil, ← all1], setRow_heap _ _ _ _ _ _ HN.out, ?_⟩
    exact (hb1.alloc hb1.size _).trans ⟨rfl, rfl, rfl, by simp, fun j hj => setRow_other _ _ _ _ (by have := hb1.size; omega)⟩
  case round =>
    obtain ⟨k, hk, rfl, rfl, hws, hnx⟩ := hrel
    have HW : Hid (Wds wr w1.heap.size 152 (cw 16)) := hws
    clear hws
    generalize hC : (l.take k).foldl crcByte 0xFFFFFFFF = c
    have HC : Hid ((l.take k).foldl crcByte 0xFFFFFFFF = c) := hC
    clear hC
    by_cases hlt : k < l.length
    · obtain ⟨b, off, rfl, hbl, hcs⟩ := hb.at hlt
      have hcell : wr.cell? ⟨b, off + k, none⟩ = some (.int .u8 (l[k].toNat : Int)) := (hnx.cell (p := ⟨b, off + k, none⟩) hbl).trans (hcs k hlt)
      clear hcs hb
      have hc255 : (l[k].toNat : Int) ≤ 255 := by have := l[k].toNat_lt; omega
      generalize hB : l[k] = bb at *
      have HB : Hid (l[k] = bb) := hB
      clear hB
      have q1 := W_xorb c bb
      generalize hX : c ^^^ bw bb = x at *
      have q2 := W_and15 x
      have q3 := and15_lt x
      have q4 := HW.out.cell (k := (x &&& 15).toNat) (by rw [cw_length (Nat.le_refl _)]; exact q3)
      rw [cw_at] at q4
      generalize (x &&& 15).toNat = i1 at q2 q3 q4
      have q5 := W_shr4 x
      have q6 : bits .xor .u32 (W (x >>> 4)) (W (crcBits 4 (x &&& 15))) = W (nib x) := W_xor _ _
      have r2 := W_and15 (nib x)
      have r3 := and15_lt (nib x)
      have r4 := HW.out.cell (k := (nib x &&& 15).toNat) (by rw [cw_length (Nat.le_refl _)]; exact r3)
      rw [cw_at] at r4
      generalize (nib x &&& 15).toNat = i2 at r2 r3 r4
      have r5 := W_shr4 (nib x)
      have r6 : bits .xor .u32 (W (nib x >>> 4)) (W (crcBits 4 (nib x &&& 15))) = W (nib (nib x)) := W_xor _ _
      have HX : Hid (c ^^^ bw bb = x) := hX
      clear hX
      have b1 := W_bd x
      have b2 := W_bd (nib x)
      generalize hY2 : nib (nib x) = y2 at *
      generalize hY : nib x = y at *
      have HY2 : Hid (nib y = y2) := hY2
      have HY : Hid (nib x = y) := hY
      generalize crcBits 4 (x &&& 15) = v1 at *
      generalize crcBits 4 (y &&& 15) = v2 at *
      generalize x >>> 4 = x4 at *
      generalize y >>> 4 = y4 at *
      clear hY hY2
      go_wp2
      go_roundw
      case rel =>
        refine ⟨k + 1, by omega, by go_num, ?_, HW.out, hnx⟩
        rw [List.take_succ_eq_append_getElem hlt, List.foldl_append, HC.out, List.foldl_cons, List.foldl_nil, HB.out, crcByte, HX.out, HY.out, HY2.out]
      case measure => simp [intOf]; omega
    · obtain rfl : k = l.length := by omega
      rw [List.take_length] at HC
      have b1 := W_bd c
      go_wp2
      go_ret
      exact ⟨ret_int (by rw [W_not, crcL, HC.out]), hnx⟩
end Go.Proofs.Ytpmjkgpmidejoaa
/-
  Write by its contract.
-/
namespace Go.Proofs.Ytpmjkgpmidejoaa
open Go.RowKit

theorem write_mem {w w1 w2 w3 : World} {F : Nat → Prop} {d gl cl gs cs : Nat} {ca : Option Addr} {cc : Nat} {M : D} {i : Nat} {b : ByteArray} {v' : Value} {n0 : Nat}
    (hV : DevV w d (.slice (some ⟨gl, 0, none⟩) M.L.length cl) (.slice (some ⟨gs, 0, none⟩) M.S.length cs) (.slice ca M.C.length cc) M)
    (hF : ∀ k, Foot d (.slice (some ⟨gl, 0, none⟩) M.L.length cl) (.slice (some ⟨gs, 0, none⟩) M.S.length cs) (.slice ca M.C.length cc) k → F k) (hl : ∀ k, F k → k < w.heap.size)
    (h1 : w1 = w.alloc (.cells #[.int .i64 (i : Int), .string b] 109))
    (ho : w2.ownsRow 0 109 2 v' n0 (ccs (M.C ++ [(i, b)]))) (hn0 : n0 = (M.C ++ [(i, b)]).length)
    (hg : w1.grownBy w2 (Value.ownBlock (.slice ca M.C.length cc)))
    (hnew : v'.ownBlock = Value.ownBlock (.slice ca M.C.length cc) ∨ ∀ k, v'.ownBlock = some k → w1.heap.size ≤ k)
    (h3 : w3 = (w2.setCell ⟨d, 2, none⟩ v').setCell ⟨gs, i, none⟩ (.string b))
    (hok : ({ M with C := M.C ++ [(i, b)], S := M.S.set i b } : D).Ok) :
    Dev w3 (Grow F w w3) d { M with C := M.C ++ [(i, b)], S := M.S.set i b } ∧ Turn F w w3 := by
  subst hn0
  have hs1 : w1.heap.size = w.heap.size + 1 := by rw [h1]; simp
  have hs2 := hg.size
  have hs3 : w3.heap.size = w2.heap.size := by rw [h3]; simp [World.setCell]
  have kd : d < w.heap.size := hl d (hF d (.inl rfl))
  have kl : gl < w.heap.size := hl gl (hF gl (.inr (.inl rfl)))
  have ks : gs < w.heap.size := hl gs (hF gs (.inr (.inr (.inl rfl))))
  have dls := (hV.dl gl rfl)
  have dss := (hV.ds gs rfl)
  have hgs : gl ≠ gs := fun e => dls.2.1 (by rw [e]; rfl)
  have nd : some d ≠ Value.ownBlock (.slice ca M.C.length cc) := fun e => hV.dc d e.symm rfl
  have ns : some gs ≠ Value.ownBlock (.slice ca M.C.length cc) := fun e => dss.2 e.symm
  have nl : some gl ≠ Value.ownBlock (.slice ca M.C.length cc) := fun e => dls.2.2 e.symm
  have k12 : ∀ k, k < w.heap.size → some k ≠ Value.ownBlock (.slice ca M.C.length cc) → w2.heap[k]? = w.heap[k]? := by
    intro k hk hne
    rw [hg.block k (by omega) hne, h1, Below.heap_alloc w _ k hk]
  have k3 : ∀ k, k ≠ d → k ≠ gs → w3.heap[k]? = w2.heap[k]? := by
    intro k hd hs
    rw [h3, Below.heap_setCell _ _ _ _ hs, Below.heap_setCell _ _ _ _ hd]
  have vd : ∀ g, v'.ownBlock = some g → g ≠ d ∧ g ≠ gl ∧ g ≠ gs := by
    intro g hgv
    rcases hnew with hnew | hnew
    · rw [hnew] at hgv
      exact ⟨hV.dc g hgv, fun e => nl (by rw [← e]; exact hgv.symm), fun e => ns (by rw [← e]; exact hgv.symm)⟩
    · have := hnew g hgv
      omega
  have hT : Turn F w w3 := by
    have t1 : Turn F w w1 := by rw [h1]; exact (Turn.refl F w).alloc _
    have t2 : Turn F w w2 := t1.trans' (Turn.of_grown hg fun k hk => hF k (.inr (.inr (.inr hk))))
    rw [h3]
    exact (t2.setCell (hF d (.inl rfl)) _).setCell (hF gs (.inr (.inr (.inl rfl)))) _
  refine ⟨⟨hok, ?_, .slice (some ⟨gl, 0, none⟩) M.L.length cl, .slice (some ⟨gs, 0, none⟩) M.S.length cs, v', ⟨?_, ?_, ?_, ?_, ?_, ?_, ?_⟩, ?_⟩, hT⟩
  · intro k hk
    rcases hk with hk | hk
    · exact Nat.lt_of_lt_of_le (hl k hk) hT.size
    · exact hk.2
  · rw [h3, Below.heap_setCell _ _ _ _ (fun e => dss.1 e.symm)]
    rw [set_blk ((k12 d kd nd).trans hV.blk) 2 v']
    rfl
  · refine owns_other hV.lr fun j hj => ?_
    obtain rfl : gl = j := by simpa [Value.ownBlock] using hj
    rw [k3 gl dls.1 hgs, k12 gl kl nl]
  · have o1 : (w2.setCell ⟨d, 2, none⟩ v').ownsRow 0 9 1 (.slice (some ⟨gs, 0, none⟩) M.S.length cs) M.S.length (scs M.S) := by
      refine owns_other hV.sr fun j hj => ?_
      obtain rfl : gs = j := by simpa [Value.ownBlock] using hj
      rw [Below.heap_setCell _ _ _ _ dss.1, k12 gs ks ns]
    have o2 := owns_set o1 i (.string b)
    rw [← h3, ← scs_set] at o2
    have e : (M.S.set i b).length = M.S.length := by simp
    show w3.ownsRow 0 9 1 _ (M.S.set i b).length (scs (M.S.set i b))
    rw [e]
    exact o2
  · refine owns_other ho fun j hj => ?_
    have := vd j hj
    exact k3 j this.1 this.2.2
  · intro g hgv
    obtain rfl : gl = g := by simpa [Value.ownBlock] using hgv
    exact ⟨dls.1, dls.2.1, fun e => (vd gl e).2.1 rfl⟩
  · intro g hgv
    obtain rfl : gs = g := by simpa [Value.ownBlock] using hgv
    exact ⟨dss.1, fun e => (vd gs e).2.2 rfl⟩
  · exact fun g hgv => (vd g hgv).1
  · intro k hk
    rcases hk with hk | hk | hk | hk
    · exact .inl (hF k (.inl hk))
    · exact .inl (hF k (.inr (.inl hk)))
    · exact .inl (hF k (.inr (.inr (.inl hk))))
    · rcases hnew with hnew | hnew
      · exact .inl (hF k (.inr (.inr (.inr (by rw [← hnew]; exact hk)))))
      · right
        have := hnew k hk
        have := (World.ownsRow.lt ho k hk).2
        omega

theorem wr_arg {M : D} {i : Int} {b : ByteArray} (h1 : M.st ≠ 2) (h2 : ¬ (0 ≤ i ∧ i < (M.S.length : Int) ∧ b.size = 256)) : M.wr i b = (1, M) := by rw [D.wr, if_pos ⟨h1, h2⟩]
theorem wr_burnt {M : D} {i : Int} {b : ByteArray} (h1 : M.st = 2 ∨ (0 ≤ i ∧ i < (M.S.length : Int) ∧ b.size = 256)) (h2 : M.burn.1 ≠ 0) : M.wr i b = M.burn := by
  rw [D.wr, if_neg (fun h => by rcases h1 with e | e; exact h.1 e; exact h.2 e), if_pos h2]
theorem wr_done {M : D} {i : Int} {b : ByteArray} (h1 : M.st = 2 ∨ (0 ≤ i ∧ i < (M.S.length : Int) ∧ b.size = 256)) (h2 : M.burn.1 = 0) : M.wr i b = (0, { M.burn.2 with C := M.C ++ [(i.toNat, b)], S := M.S.set i.toNat b }) := by
  rw [D.wr, if_neg (fun h => by rcases h1 with e | e; exact h.1 e; exact h.2 e), if_neg (by omega)]
theorem burn_st2 {M : D} (h : M.st = 2) : M.burn.1 = 50 := by
  rw [D.burn, if_neg (by omega), if_neg (by omega)]
theorem burn_two (M : D) : M.burn.1 = 0 ∨ M.burn.1 = 50 := by
  unfold D.burn
  split
  · exact .inl rfl
  · split
    · exact .inl rfl
    · exact .inr rfl

set_option maxHeartbeats 2000000 in
/-- Behind the tests: burn, and the write where it goes well. -/
theorem write_arg (d : Nat) (i : Int) (a : Option Addr) (l : List UInt8) (cap : Nat) (w : World) (F : Nat → Prop) (M : D) (h : Dev w F d M) (hs : M.st ≠ 2) (hi : ¬ (0 ≤ i ∧ i < (M.S.length : Int) ∧ l.length = 256)) :
    Calls Try.prog 23 #[.pointer (some ⟨d, 0, none⟩), .int .i64 i, .slice a l.length cap] w fun e w' => e = .returned (.int .i64 1) ∧ w = w' := by
  have hhas := has_any d i w F M h
  obtain ⟨gl, cl, gs, cs, ca, cc, hV, _⟩ := h.open
  have c3 := cell_blk hV.blk 3
  simp only [List.getElem?_toArray] at c3
  have hs' : ((M.st : Int) != 2) = true := by simp; omega
  clear hV h hs
  by_cases hb : 0 ≤ i ∧ i < (M.S.length : Int)
  · have hl : ((l.length : Int) != 256) = true := by
      rw [bne_iff_ne]
      intro e
      exact hi ⟨hb.1, hb.2, by omega⟩
    rw [decide_eq_true hb] at hhas
    clear hb hi
    go_enter Try.func23, Try.ntmps23
    go_wp2_with (go_at_call 55; refine hhas.mono ?_; rintro e w1 ⟨rfl, rfl⟩)
    go_ret
    exact ⟨rfl, rfl⟩
  · rw [decide_eq_false hb] at hhas
    clear hb hi
    go_enter Try.func23, Try.ntmps23
    go_wp2_with (go_at_call 55; refine hhas.mono ?_; rintro e w1 ⟨rfl, rfl⟩)
    go_ret
    exact ⟨rfl, rfl⟩

set_option maxHeartbeats 2000000 in
theorem write_burnt (d : Nat) (i : Int) (a : Option Addr) (l : List UInt8) (cap : Nat) (w : World) (F : Nat → Prop) (M : D) (h : Dev w F d M) (hi : M.st = 2 ∨ (0 ≤ i ∧ i < (M.S.length : Int) ∧ l.length = 256)) (h50 : M.burn.1 = 50) :
    Calls Try.prog 23 #[.pointer (some ⟨d, 0, none⟩), .int .i64 i, .slice a l.length cap] w fun e w' => e = .returned (.int .i64 50) ∧ Dev w' F d M.burn.2 ∧ Turn F w w' := by
  have hhas := has_any d i w F M h
  have hburn := burn_any d w F M h
  rw [h50] at hburn
  obtain ⟨gl, cl, gs, cs, ca, cc, hV, _⟩ := h.open
  have c3 := cell_blk hV.blk 3
  simp only [List.getElem?_toArray] at c3
  clear hV h h50
  by_cases hs : M.st = 2
  · rw [hs] at c3
    clear hhas hi hs
    go_enter Try.func23, Try.ntmps23
    go_wp2_with fail
    refine hburn.mono ?_
    rintro e w1 ⟨rfl, hD, hT⟩
    go_wp2
    go_ret
    exact ⟨rfl, hD, hT⟩
  · have hs' : ((M.st : Int) != 2) = true := by simp; omega
    have hb := hi.resolve_left hs
    have hl : ((l.length : Int) != 256) = false := by rw [bne_eq_false_iff_eq]; omega
    rw [decide_eq_true (And.intro hb.1 hb.2.1)] at hhas
    clear hb hi hs
    go_enter Try.func23, Try.ntmps23
    go_wp2_with (go_at_call 55; refine hhas.mono ?_; rintro e w1 ⟨rfl, rfl⟩)
    refine hburn.mono ?_
    rintro e w1 ⟨rfl, hD, hT⟩
    go_wp2
    go_ret
    exact ⟨rfl, hD, hT⟩

theorem Bytes.turn {w w' : World} {a : Option Addr} {l : List UInt8} {F : Nat → Prop} (h : Bytes w a l) (ht : Turn F w w') (hF : ∀ ad, a = some ad → ¬ F ad.block) : Bytes w' a l := by
  rcases h with rfl | ⟨b, off, rfl, hb', hc⟩
  · exact .inl rfl
  · refine .inr ⟨b, off, rfl, by have := ht.size; omega, fun j hj => ?_⟩
    rw [World.cell?_of_block (w := w) (a := ⟨b, off + j, none⟩) (ht.block b hb' (hF _ rfl))]
    exact hc j hj
theorem two_new (w : World) (x y : Value) (t : TypeId) : ∀ j u, [x, y][j]? = some u → (w.alloc (.cells #[x, y] t)).cell? ((⟨w.heap.size, 0, none⟩ : Addr).add j) = some u := by
  intro j u hj
  rw [Addr.add_lit, Nat.zero_add]
  have := cell_blk (heap_alloc_new w (.cells #[x, y] t)) j
  rw [this]
  simpa using hj

set_option maxHeartbeats 4000000 in
theorem write_done (d i : Nat) (a : Option Addr) (l : List UInt8) (cap : Nat) (w : World) (F : Nat → Prop) (M : D) (h : Dev w F d M) (hi : i < M.S.length) (hl : l.length = 256) (hs : M.st ≠ 2) (h0 : M.burn.1 = 0) (hb : Bytes w a l) (hab : ∀ ad, a = some ad → ¬ F ad.block) (hC : M.C.length ≤ 100000) :
    Calls Try.prog 23 #[.pointer (some ⟨d, 0, none⟩), .int .i64 (i : Int), .slice a l.length cap] w fun e w' => e = .returned (.int .i64 0) ∧ Dev w' (Grow F w w') d (M.wr i ⟨l.toArray⟩).2 ∧ Turn F w w' := by
  obtain ⟨i0, hi0, hz0, hz1, hz2⟩ := info_parts info109
  have hhas := has_any d i w F M h
  rw [decide_eq_true (show (0 : Int) ≤ (i : Int) ∧ (i : Int) < (M.S.length : Int) from ⟨by omega, by omega⟩)] at hhas
  have hburn := burn_any d w F M h
  have hwr : (M.wr (i : Int) ⟨l.toArray⟩).2 = { M.burn.2 with C := M.C ++ [(i, ⟨l.toArray⟩)], S := M.S.set i ⟨l.toArray⟩ } := by
    rw [wr_done (.inr ⟨by omega, by omega, by simpa [ByteArray.size] using hl⟩) h0]
    simp
  have hok := h.1.wr (i : Int) ⟨l.toArray⟩
  rw [hwr] at hok ⊢
  clear hwr
  obtain ⟨e1, e2, e3⟩ := M.burn_L
  rw [← e3] at hok hC ⊢
  rw [← e2] at hi hok ⊢
  rw [h0] at hburn
  obtain ⟨gl, cl, gs, cs, ca, cc, hV, _⟩ := h.open
  have c3 := cell_blk hV.blk 3
  simp only [List.getElem?_toArray] at c3
  have hs' : ((M.st : Int) != 2) = true := by simp; omega
  have hl' : ((l.length : Int) != 256) = false := by rw [bne_eq_false_iff_eq]; omega
  clear hV h hs e1 e2 e3 h0 hl
  obtain ⟨N, hN⟩ : ∃ N, N = M.burn.2 := ⟨_, rfl⟩
  rw [← hN] at hburn hok hi hC ⊢
  obtain ⟨b, hbe⟩ : ∃ b : ByteArray, b = ⟨l.toArray⟩ := ⟨_, rfl⟩
  rw [← hbe] at hok ⊢
  have HOK := (show Hid _ from hok)
  have HB := (show Hid (Bytes w a l) from hb)
  have HAB := (show Hid (∀ ad, a = some ad → ¬ F ad.block) from hab)
  clear hN hok hb hab
  go_enter Try.func23, Try.ntmps23
  go_wp2_with (go_at_call 55; refine hhas.mono ?_; rintro e w1 ⟨rfl, rfl⟩)
  refine hburn.mono ?_
  rintro e w1 ⟨rfl, hD, hT⟩
  obtain ⟨gl2, cl2, gs2, cs2, ca2, cc2, hV2, hF2, hcs, _⟩ := hD.open
  have b2 := cell_blk hV2.blk 2
  have b1 := cell_blk hV2.blk 1
  have f2 := frozen_blk hV2.blk 2
  simp only [List.getElem?_toArray] at b2 b1
  have hcv := convert_bytes w1 a cap l (HB.out.turn hT HAB.out)
  rw [← hbe] at hcv
  have HT : Hid (Turn F w w1) := hT
  have HD : Hid (Dev w1 F d N) := hD
  have HV := (show Hid _ from hV2)
  have HF := (show Hid _ from hF2)
  have hown := (hV2.cr.alloc (.cells #[.int .i64 (i : Int), .string b] 109))
  clear hhas hburn c3 hs' HB HAB hT hD hV2 hF2 hbe
  have hfacts : ∀ v' w2, w2.ownsRow 0 109 2 v' (N.C.length + 1) (ccs N.C ++ [.int .i64 (i : Int), .string b]) → (w1.alloc (.cells #[.int .i64 (i : Int), .string b] 109)).grownBy w2 (Value.ownBlock (.slice ca2 N.C.length cc2)) →
      (∃ ca3 cc3, v' = .slice ca3 (N.C.length + 1) cc3) ∧ w2.cell? ⟨d, 2, none⟩ = some (.slice ca2 N.C.length cc2) ∧ w2.frozen? ⟨d, 2, none⟩ = false ∧ w2.cell? ⟨d, 1, none⟩ = some (.slice (some ⟨gs2, 0, none⟩) N.S.length cs2) ∧ (w2.cell? ⟨gs2, i, none⟩ = some (.string N.S[i])) ∧ w2.frozen? ⟨gs2, i, none⟩ = false := by
    intro v' w2 ho hg
    have hV := HV.out
    have kd : d < w1.heap.size := HD.out.lt
    have ks : gs2 < w1.heap.size := HD.out.2.1 gs2 (HF.out gs2 (.inr (.inr (.inl rfl))))
    have nd : some d ≠ Value.ownBlock (.slice ca2 N.C.length cc2) := fun e => hV.dc d e.symm rfl
    have ns : some gs2 ≠ Value.ownBlock (.slice ca2 N.C.length cc2) := fun e => (hV.ds gs2 rfl).2 e.symm
    have hd : w2.heap[d]? = w1.heap[d]? := by rw [hg.block d (by simp; omega) nd, Below.heap_alloc _ _ _ kd]
    have hgs : w2.heap[gs2]? = w1.heap[gs2]? := by rw [hg.block gs2 (by simp; omega) ns, Below.heap_alloc _ _ _ ks]
    have bd := hd.trans hV.blk
    have os : w2.ownsRow 0 9 1 (.slice (some ⟨gs2, 0, none⟩) N.S.length cs2) N.S.length (scs N.S) := owns_other hV.sr fun j hj => by
      obtain rfl : gs2 = j := by simpa [Value.ownBlock] using hj
      exact hgs
    refine ⟨?_, cell_blk bd 2, frozen_blk bd 2, cell_blk bd 1, owns_cell os (scs_get hi), owns_frozen os i⟩
    obtain ⟨_, ⟨_, hn⟩ | ⟨g, cap, cur, rfl, _⟩⟩ := ho
    · omega
    · exact ⟨_, _, rfl⟩
  have hne : gs2 ≠ d := (HV.out.ds gs2 rfl).1
  have HFA := (show Hid _ from hfacts)
  have hi' : (i : Int) < (N.S.length : Int) := by omega
  clear hfacts
  go_wp2_with (at_builtin; refine wpList_append_own2 rfl _ _ 79 rfl 0 109 i0 (.agg #[.int .i64 0, .string ⟨#[]⟩]) 2 24 Try.underlying79 hi0 hz0 hz1 hz2 rfl (by decide) _ N.C.length (ccs N.C) rfl hown ⟨w1.heap.size, 0, none⟩ 1 1 [.int .i64 (i : Int), .string b] rfl rfl (two_new _ _ _ _) (by intro u hu; simp at hu; rcases hu with rfl | rfl <;> rfl) (by unfold maxLen; omega) (by omega) (Nat.zero_le _) ?_; intro v' w2 ho2 hg2 hn2; obtain ⟨⟨ca3, cc3, rfl⟩, x1, x2, x3, x4, x5⟩ := HFA.out v' w2 ho2 hg2; have HX := (show Hid (w2.ownsRow 0 109 2 (.slice ca3 (N.C.length + 1) cc3) (N.C.length + 1) (ccs N.C ++ [.int .i64 (i : Int), .string b]) ∧ (w1.alloc (.cells #[.int .i64 (i : Int), .string b] 109)).grownBy w2 (Value.ownBlock (.slice ca2 N.C.length cc2)) ∧ (Value.ownBlock (.slice ca3 (N.C.length + 1) cc3) = Value.ownBlock (.slice ca2 N.C.length cc2) ∨ ∀ k, Value.ownBlock (.slice ca3 (N.C.length + 1) cc3) = some k → (w1.alloc (.cells #[.int .i64 (i : Int), .string b] 109)).heap.size ≤ k)) from ⟨ho2, hg2, hn2⟩); clear ho2 hg2 hn2)
  go_ret
  obtain ⟨hD3, hT3⟩ := write_mem (w2 := w2) (w3 := (w2.setCell ⟨d, 2, none⟩ (.slice ca3 (N.C.length + 1) cc3)).setCell ⟨gs2, i, none⟩ (.string b)) HV.out HF.out HD.out.2.1 rfl (n0 := N.C.length + 1) (i := i) (b := b) (by rw [ccs_append]; exact HX.out.1) (by simp) HX.out.2.1 HX.out.2.2 rfl HOK.out
  refine ⟨rfl, ?_, HT.out.trans' hT3⟩
  obtain ⟨q1, q2, lv, sv, cv, q3, q4⟩ := hD3
  refine ⟨q1, ?_, lv, sv, cv, q3, ?_⟩
  · intro k hk
    rcases hk with hk | hk
    · exact q2 k (.inl hk)
    · exact hk.2
  · intro k hk
    have hsz := HT.out.size
    rcases q4 k hk with h | h
    · exact .inl h
    · exact .inr ⟨by omega, h.2⟩

theorem Dev.grow {w w' : World} {F : Nat → Prop} {d : Nat} {M : D} (h : Dev w' F d M) : Dev w' (Grow F w w') d M := by
  obtain ⟨h0, h1, lv, sv, cv, h2, h3⟩ := h
  refine ⟨h0, ?_, lv, sv, cv, h2, fun k hk => .inl (h3 k hk)⟩
  intro k hk
  rcases hk with hk | hk
  · exact h1 k hk
  · exact hk.2

theorem write_any (d : Nat) (i : Int) (a : Option Addr) (l : List UInt8) (cap : Nat) (w : World) (F : Nat → Prop) (M : D) (h : Dev w F d M) (hb : Bytes w a l) (hab : ∀ ad, a = some ad → ¬ F ad.block) (hC : M.C.length ≤ 100000) :
    Calls Try.prog 23 #[.pointer (some ⟨d, 0, none⟩), .int .i64 i, .slice a l.length cap] w fun e w' => e = .returned (.int .i64 (M.wr i ⟨l.toArray⟩).1) ∧ Dev w' (Grow F w w') d (M.wr i ⟨l.toArray⟩).2 ∧ Turn F w w' := by
  have hsz : (⟨l.toArray⟩ : ByteArray).size = l.length := by simp [ByteArray.size]
  by_cases hs : M.st ≠ 2 ∧ ¬ (0 ≤ i ∧ i < (M.S.length : Int) ∧ l.length = 256)
  · rw [wr_arg hs.1 (by rw [hsz]; exact hs.2)]
    refine (write_arg d i a l cap w F M h hs.1 hs.2).mono ?_
    rintro e w1 ⟨rfl, rfl⟩
    exact ⟨rfl, h.grow, Turn.refl _ _⟩
  · have hs2 : M.st = 2 ∨ (0 ≤ i ∧ i < (M.S.length : Int) ∧ l.length = 256) := by
      by_cases e : M.st = 2
      · exact .inl e
      · exact .inr (Classical.byContradiction fun hn => hs ⟨e, hn⟩)
    rcases burn_two M with h0 | h50
    · have hst : M.st ≠ 2 := fun e => by rw [burn_st2 e] at h0; omega
      obtain ⟨i1, i2, i3⟩ := hs2.resolve_left hst
      obtain ⟨n, rfl⟩ := Int.eq_ofNat_of_zero_le i1
      have e1 : (M.wr (n : Int) ⟨l.toArray⟩).1 = 0 := by rw [wr_done (.inr ⟨i1, i2, by rw [hsz]; exact i3⟩) h0]
      rw [e1]
      exact write_done d n a l cap w F M h (by omega) i3 hst h0 hb hab hC
    · rw [wr_burnt (by rw [hsz]; exact hs2) (by omega), h50]
      refine (write_burnt d i a l cap w F M h hs2 h50).mono ?_
      rintro e w1 ⟨rfl, h1, h2⟩
      exact ⟨rfl, h1.grow, h2⟩
end Go.Proofs.Ytpmjkgpmidejoaa
