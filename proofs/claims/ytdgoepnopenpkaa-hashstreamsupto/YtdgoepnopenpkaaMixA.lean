/-
  The rounds of MD5 in plain terms, and (*md5State).mix by its contract.
-/
import Derived.Test.YtdgoepnopenpkaaWords
import Derived.Test.YtdgoepnopenpkaaCrc
import Derived.BigRegion
namespace Go.Proofs.Ytdgoepnopenpkaa
open Go.RowKit

/-- Four bytes as a word, the lowest first. -/
def le4 (l : List UInt8) (k : Nat) : Wd := bw (l.getD k 0) ||| bw (l.getD (k + 1) 0) <<< 8 ||| bw (l.getD (k + 2) 0) <<< 16 ||| bw (l.getD (k + 3) 0) <<< 24
/-- The words of a block, made so far. -/
def mt (l : List UInt8) (k : Nat) : List Wd := (List.range k).map (fun j => le4 l (4 * j)) ++ zeros (16 - k)
theorem mt_length (l : List UInt8) {k : Nat} (h : k ≤ 16) : (mt l k).length = 16 := by simp [mt, zeros]; omega
theorem mt_set (l : List UInt8) {k : Nat} (h : k < 16) : (mt l k).set k (le4 l (4 * k)) = mt l (k + 1) := by
  unfold mt zeros
  rw [List.range_succ, List.map_append, List.set_append_right _ _ (by simp)]
  simp only [List.length_map, List.length_range, Nat.sub_self]
  rw [show 16 - k = (16 - (k + 1)) + 1 from by omega, List.replicate_succ]
  simp

theorem Bytes.getD {w : World} {b off : Nat} {l : List UInt8} (hc : ∀ j (h : j < l.length), w.cell? ⟨b, off + j, none⟩ = some (.int .u8 (l[j].toNat : Int))) {k : Nat} (hk : k < l.length) :
    w.cell? ⟨b, off + k, none⟩ = some (.int .u8 ((l.getD k 0).toNat : Int)) := by
  rw [hc k hk]
  simp [List.getD, hk]

theorem W_bshl (c : UInt8) (k : Nat) (h : k ≤ 24) : (c.toNat : Int) * (2 : Int) ^ k = W (bw c <<< k) := by
  rw [← W_shlm, W_bw]
  have h1 := c.toNat_lt
  have h2 : (2 : Nat) ^ k ≤ 2 ^ 24 := Nat.pow_le_pow_right (by decide) h
  have h3 : c.toNat * 2 ^ k ≤ 255 * 2 ^ 24 := Nat.mul_le_mul (by omega) h2
  have h5 : (c.toNat : Int) * (2 : Int) ^ k = ((c.toNat * 2 ^ k : Nat) : Int) := by simp
  rw [h5]
  generalize c.toNat * 2 ^ k = n at *
  omega
theorem W_le4 (b0 b1 b2 b3 : UInt8) : bits .or .u32 (bits .or .u32 (bits .or .u32 (b0.toNat : Int) ((b1.toNat : Int) * 256)) ((b2.toNat : Int) * 65536)) ((b3.toNat : Int) * 16777216)
    = W (bw b0 ||| bw b1 <<< 8 ||| bw b2 <<< 16 ||| bw b3 <<< 24) := by
  rw [← W_bw b0, show (256 : Int) = (2 : Int) ^ 8 by decide, show (65536 : Int) = (2 : Int) ^ 16 by decide, show (16777216 : Int) = (2 : Int) ^ 24 by decide, W_bshl _ 8 (by decide), W_bshl _ 16 (by decide), W_bshl _ 24 (by decide), W_or, W_or, W_or]

/-- What a round of MD5 makes of the state: its number, the word of the text. -/
def mF (i : Nat) (b c d : Wd) : Wd := if i < 16 then b &&& c ||| d &&& ~~~ b else if i < 32 then b &&& d ||| c &&& ~~~ d else if i < 48 then b ^^^ c ^^^ d else c ^^^ (b ||| ~~~ d)
def mAt (i : Nat) : Nat := if i < 16 then i else if i < 32 then (5 * i + 1) % 16 else if i < 48 then (3 * i + 5) % 16 else 7 * i % 16
def mTurn (i : Nat) : Nat := [7, 12, 17, 22, 5, 9, 14, 20, 4, 11, 16, 23, 6, 10, 15, 21].getD (i / 16 * 4 + i % 4) 0
theorem turn_at (q k : Nat) (hq : q < 4) (h : k / 16 = q) : ([[7, 12, 17, 22], [5, 9, 14, 20], [4, 11, 16, 23], [6, 10, 15, 21]].getD q [0, 0, 0, 0] : List Int).getD (k % 4) 0 = (mTurn k : Int) := by
  unfold mTurn
  rw [h]
  have hr : k % 4 < 4 := Nat.mod_lt _ (by decide)
  generalize k % 4 = r at *
  match q, hq, r, hr with
  | 0, _, 0, _ => rfl
  | 0, _, 1, _ => rfl
  | 0, _, 2, _ => rfl
  | 0, _, 3, _ => rfl
  | 1, _, 0, _ => rfl
  | 1, _, 1, _ => rfl
  | 1, _, 2, _ => rfl
  | 1, _, 3, _ => rfl
  | 2, _, 0, _ => rfl
  | 2, _, 1, _ => rfl
  | 2, _, 2, _ => rfl
  | 2, _, 3, _ => rfl
  | 3, _, 0, _ => rfl
  | 3, _, 1, _ => rfl
  | 3, _, 2, _ => rfl
  | 3, _, 3, _ => rfl
theorem turn_lt (k : Nat) : mTurn k < 32 := by
  unfold mTurn
  generalize k / 16 * 4 + k % 4 = j
  rcases Nat.lt_or_ge j 16 with h | h
  · revert j
    decide +kernel
  · rw [show List.getD _ j 0 = 0 from by simp [List.getD, List.getElem?_eq_none (show ([7, 12, 17, 22, 5, 9, 14, 20, 4, 11, 16, 23, 6, 10, 15, 21] : List Nat).length ≤ j from h)]]
    decide
structure S4 where
  a : Wd
  b : Wd
  c : Wd
  d : Wd
def mRound (T : Nat → Wd) (i : Nat) (s : S4) : S4 := ⟨s.d, s.b + rotl (s.a + mF i s.b s.c s.d + md5K.getD i 0 + T (mAt i)) (mTurn i), s.b, s.c⟩
def mRounds (T : Nat → Wd) : Nat → S4 → S4
  | 0, s => s
  | n + 1, s => mRound T n (mRounds T n s)
/-- What a block makes of the state. -/
def mMix (l : List UInt8) (s : S4) : S4 :=
  ⟨s.a + (mRounds (fun j => le4 l (4 * j)) 64 s).a, s.b + (mRounds (fun j => le4 l (4 * j)) 64 s).b, s.c + (mRounds (fun j => le4 l (4 * j)) 64 s).c, s.d + (mRounds (fun j => le4 l (4 * j)) 64 s).d⟩
theorem mAt_lt (i : Nat) (_h : i < 64) : mAt i < 16 := by
  unfold mAt
  split
  · omega
  · split
    · omega
    · split <;> omega

theorem index77 (a b c d : Int) (r : Nat) (i : Int) (t : Int) (hr : r < 4) (hi : i = (r : Int)) (ht : [a, b, c, d].getD r 0 = t) (w : World) :
    (Instr.index 77 (.agg #[.int .i64 a, .int .i64 b, .int .i64 c, .int .i64 d]) (.int .i64 i)).run Try.prog w = .ok (.int .i64 t) w := by
  subst hi ht
  obtain ⟨i3, h3, _, hz, _⟩ := info_parts (show (Try.prog.info? 3).map (fun i => (i.zero, i.size, i.bytes)) = some (some (.int .i64 0), 1, 8) by kernel_rfl)
  match r, hr with
  | 0, _ => simp [Instr.index, asIntOf, run_underlying Try.underlying77, sizeOf, typeInfo, part, h3, hz]
  | 1, _ => simp [Instr.index, asIntOf, run_underlying Try.underlying77, sizeOf, typeInfo, part, h3, hz]
  | 2, _ => simp [Instr.index, asIntOf, run_underlying Try.underlying77, sizeOf, typeInfo, part, h3, hz]
  | 3, _ => simp [Instr.index, asIntOf, run_underlying Try.underlying77, sizeOf, typeInfo, part, h3, hz]

theorem rotl_same (x : Wd) (s : Nat) (w : World) (hs : s < 32) : Calls Try.prog 47 #[.int .u32 (W x), .int .i64 (s : Int)] w fun e w' => e = .returned (.int .u32 (W (rotl x s))) ∧ w' = w :=
  (rotl_pos x s w hs).mono fun _ _ h => ⟨h.1, h.2.symm⟩

set_option maxHeartbeats 1000000 in
set_option maxRecDepth 20000 in
theorem md5Mix_any (g kg b off c : Nat) (s : S4) (l : List UInt8) (w : World) (hst : Wds w g 72 [s.a, s.b, s.c, s.d]) (hK : Wds w kg 66 md5K) (hl : l.length = 64) (hc : 64 ≤ c) (hbl : b < w.heap.size)
    (hcs : ∀ j (h : j < l.length), w.cell? ⟨b, off + j, none⟩ = some (.int .u8 (l[j].toNat : Int))) :
    Calls Try.prog 44 #[.pointer (some ⟨g, 0, none⟩), .pointer (some ⟨kg, 0, none⟩), .slice (some ⟨b, off, none⟩) 64 c] w fun e w' => e = .returned (.tuple #[]) ∧ w.grownBy w' (some g) ∧ Wds w' g 72 [(mMix l s).a, (mMix l s).b, (mMix l s).c, (mMix l s).d] := by
  have HS : Hid (Wds w g 72 [s.a, s.b, s.c, s.d]) := hst
  have HK : Hid (Wds w kg 66 md5K) := hK
  have HL : Hid (l.length = 64) := hl
  have HCS : Hid (∀ j (h : j < l.length), w.cell? ⟨b, off + j, none⟩ = some (.int .u8 (l[j].toNat : Int))) := hcs
  clear hst hK hl hcs
  go_enter Try.func44, Try.ntmps44
  go_wp2
  go_loopw [17] (fun i wr => ∃ k : Nat, k ≤ 16 ∧ i = .int .i64 k ∧ Wds wr w.heap.size 57 (mt l k) ∧ Below w.heap.size w wr) (fun i _ => 16 - (intOf i).toNat)
  case atStart => exact ⟨0, by omega, rfl, Wds.new' rfl (by rfl), (Below.refl _ _).alloc (Nat.le_refl _) _⟩
  case round =>
    obtain ⟨k, hk, rfl, hws, hnx⟩ := hrel
    have HW : Hid (Wds wr w.heap.size 57 (mt l k)) := hws
    clear hws
    by_cases hlt : k < 16
    · have hlt' : (k : Int) < 16 := by omega
      have hsz := hnx.size
      have q0 : wr.cell? ⟨b, off + 4 * k, none⟩ = some (.int .u8 ((l.getD (4 * k) 0).toNat : Int)) := (hnx.cell (p := ⟨b, off + 4 * k, none⟩) hbl).trans (Bytes.getD HCS.out (k := 4 * k) (by rw [HL.out]; omega))
      have q1 : wr.cell? ⟨b, off + 4 * k + 1, none⟩ = some (.int .u8 ((l.getD (4 * k + 1) 0).toNat : Int)) := (hnx.cell (p := ⟨b, off + 4 * k + 1, none⟩) hbl).trans (Bytes.getD HCS.out (k := 4 * k + 1) (by rw [HL.out]; omega))
      have q2 : wr.cell? ⟨b, off + 4 * k + 2, none⟩ = some (.int .u8 ((l.getD (4 * k + 2) 0).toNat : Int)) := (hnx.cell (p := ⟨b, off + 4 * k + 2, none⟩) hbl).trans (Bytes.getD HCS.out (k := 4 * k + 2) (by rw [HL.out]; omega))
      have q3 : wr.cell? ⟨b, off + 4 * k + 3, none⟩ = some (.int .u8 ((l.getD (4 * k + 3) 0).toNat : Int)) := (hnx.cell (p := ⟨b, off + 4 * k + 3, none⟩) hbl).trans (Bytes.getD HCS.out (k := 4 * k + 3) (by rw [HL.out]; omega))
      have hold := HW.out.cell (k := k) (by rw [mt_length l hk]; exact hlt)
      have hfr := HW.out.frozen k
      have hlt2 : k < 16 := hlt
      generalize hB0 : l.getD (4 * k) 0 = b0 at *
      generalize hB1 : l.getD (4 * k + 1) 0 = b1 at *
      generalize hB2 : l.getD (4 * k + 2) 0 = b2 at *
      generalize hB3 : l.getD (4 * k + 3) 0 = b3 at *
      have HE : Hid (le4 l (4 * k) = bw b0 ||| bw b1 <<< 8 ||| bw b2 <<< 16 ||| bw b3 <<< 24) := by
        show _ = _
        rw [le4, hB0, hB1, hB2, hB3]
      clear hB0 hB1 hB2 hB3
      have e0 := b0.toNat_lt
      have e1 := b1.toNat_lt
      have e2 := b2.toNat_lt
      have e3 := b3.toNat_lt
      have hne : b ≠ w.heap.size := by omega
      have hn0 : (0 : Int) < ((64 - 4 * k : Nat) : Int) := by omega
      have hn1 : (1 : Int) < ((64 - 4 * k : Nat) : Int) := by omega
      have hn2 : (2 : Int) < ((64 - 4 * k : Nat) : Int) := by omega
      have hn3 : (3 : Int) < ((64 - 4 * k : Nat) : Int) := by omega
      go_wp2_with fail
      go_region
      go_wp2
      go_roundw
      case rel =>
        refine ⟨k + 1, by omega, by go_num, ?_, ?_⟩
        · rw [W_le4, ← HE.out, ← mt_set l hlt]
          exact HW.out.set k _
        · exact (hnx.setCell (Nat.le_refl _) _).drew
      case measure => simp [intOf]; omega
    · obtain rfl : k = 16 := by omega
      have hglt := HS.out.lt
      have hS : Wds wr g 72 [s.a, s.b, s.c, s.d] := HS.out.below hnx hglt
      have s0 : wr.cell? ⟨g, 0, none⟩ = some (.int .u32 (W s.a)) := hS.cell (k := 0) (by simp)
      have s1 : wr.cell? ⟨g, 1, none⟩ = some (.int .u32 (W s.b)) := hS.cell (k := 1) (by simp)
      have s2 : wr.cell? ⟨g, 2, none⟩ = some (.int .u32 (W s.c)) := hS.cell (k := 2) (by simp)
      have s3 : wr.cell? ⟨g, 3, none⟩ = some (.int .u32 (W s.d)) := hS.cell (k := 3) (by simp)
      clear hS
      go_wp2_with fail
      go_quiet (fail)
      go_wp2
      have HT : Hid (Wds (wr.drewN nq) w.heap.size 57 (mt l 16)) := HW.out
      have hnq : Below w.heap.size w (wr.drewN nq) := below_drewN hnx nq
      clear s0 s1 s2 s3 HW hnx
      generalize wr.drewN nq = w2 at *
      go_loopw [9, 10, 11, 12, 65] (fun va vb vc vd i wr => ∃ k : Nat, k ≤ 64 ∧ i = .int .i64 k ∧ va = .int .u32 (W (mRounds (fun j => le4 l (4 * j)) k s).a) ∧ vb = .int .u32 (W (mRounds (fun j => le4 l (4 * j)) k s).b) ∧ vc = .int .u32 (W (mRounds (fun j => le4 l (4 * j)) k s).c) ∧ vd = .int .u32 (W (mRounds (fun j => le4 l (4 * j)) k s).d) ∧
          Wds wr w.heap.size 57 (mt l 16) ∧ Below w.heap.size w wr) (fun _ _ _ _ i _ => 64 - (intOf i).toNat)
      case atStart => exact ⟨0, by omega, rfl, rfl, rfl, rfl, rfl, HT.out, hnq⟩
      case round =>
        clear HT hnq
        obtain ⟨k, hk, rfl, rfl, rfl, rfl, rfl, hws, hnx⟩ := hrel
        have HW : Hid (Wds wr w.heap.size 57 (mt l 16)) := hws
        clear hws
        by_cases hlt : k < 64
        · have HR : Hid (mRounds (fun j => le4 l (4 * j)) (k + 1) s = mRound (fun j => le4 l (4 * j)) k (mRounds (fun j => le4 l (4 * j)) k s)) := rfl
          generalize mRounds (fun j => le4 l (4 * j)) k s = t at *
          obtain ⟨ta, tb, tc, td⟩ := t
          have hKw : Wds wr kg 66 md5K := HK.out.below hnx HK.out.lt
          have hkc := hKw.cell (k := k) hlt
          have hat := mAt_lt k hlt
          have htc := HW.out.cell (k := mAt k) (by rw [mt_length l (Nat.le_refl _)]; exact hat)
          have hlt' : (k : Int) < 64 := by omega
          clear hKw
          generalize hKV : md5K[k] = kv at hkc
          generalize hTV : (mt l 16)[mAt k] = tv at htc
          have HKV : Hid (md5K.getD k 0 = kv) := by
            show _ = _
            rw [← hKV]
            exact getD_at hlt
          have HTV : Hid (le4 l (4 * mAt k) = tv) := by
            show _ = _
            rw [← hTV]
            simp [mt, zeros]
          clear hKV hTV
          have HR' : Hid ((mRound (fun j => le4 l (4 * j)) k ⟨ta, tb, tc, td⟩).b = tb + rotl (ta + mF k tb tc td + kv + tv) (mTurn k)) := by
            show _ = _
            simp only [mRound]
            rw [HKV.out, HTV.out]
          generalize hF : mF k tb tc td = f at HR'
          have a1 := W_addm ta f
          generalize hx1 : ta + f = x1 at HR' a1
          have a2 := W_addm x1 kv
          generalize hx2 : x1 + kv = x2 at HR' a2
          have a3 := W_addm x2 tv
          generalize hx3 : x2 + tv = x3 at HR' a3
          generalize hY : rotl x3 (mTurn k) = y at HR'
          have a4 := W_addm tb y
          generalize hz : tb + y = z at HR' a4
          have HZ : Hid ((mRound (fun j => le4 l (4 * j)) k ⟨ta, tb, tc, td⟩).b = z) := HR'.out
          clear hx1 hx2 hx3 hz HR'
          have hq4 : k / 16 = 0 ∨ k / 16 = 1 ∨ k / 16 = 2 ∨ k / 16 = 3 := by omega
          rcases hq4 with hq | hq | hq | hq
          · have HAT : Hid (mAt k = k) := by show _ = _; unfold mAt; rw [if_pos (by omega)]
            have HF : Hid (mF k tb tc td = f) := hF
            have f1 : bits .or .u32 (bits .and .u32 (W tb) (W tc)) (bits .andNot .u32 (W td) (W tb)) = W f := by
              rw [W_and, W_andNot, W_or, ← hF]
              unfold mF
              rw [if_pos (by omega)]
            rw [HAT.out] at hat htc
            have hq' : (k : Int) / 16 = 0 := by omega
            have hat' : (k : Int) < 16 := by omega
            have hidx := index77 7 12 17 22 (k % 4) ((k : Int) % 4) (mTurn k) (by omega) (by omega) (turn_at 0 k (by decide) hq)
            generalize hTU : mTurn k = tn at hidx hY
            have HTU : Hid (mTurn k = tn) := hTU
            have HY : Hid (rotl x3 tn = y) := hY
            have htn : tn < 32 := by rw [← hTU]; exact turn_lt k
            have HQ : Hid (∀ w, Calls Try.prog 47 #[.int .u32 (W x3), .int .i64 (tn : Int)] w fun e w' => e = .returned (.int .u32 (W y)) ∧ w' = w) := fun w => by have := rotl_same x3 tn w htn; rw [HY.out] at this; exact this
            clear hq hTU hF hY
            dsimp only
            go_wp2_with fail
            go_quiet (fail)
            go_wp2_with fail
            go_quiet ((go_at_call 47; exact (HQ.out _).mono (fun _ _ h => ⟨h.1, _, h.2⟩)))
            go_wp2
            go_roundw
            case rel =>
              refine ⟨k + 1, by omega, by go_num, ?_, ?_, ?_, ?_, HW.out, below_drewN hnx _⟩
              all_goals rw [HR.out]
              · rfl
              · rw [HZ.out, a4]
              · rfl
              · rfl
            case measure => simp [intOf]; omega
          · have HAT : Hid (mAt k = (5 * k + 1) % 16) := by show _ = _; unfold mAt; rw [if_neg (by omega), if_pos (by omega)]
            have HF : Hid (mF k tb tc td = f) := hF
            have f1 : bits .or .u32 (bits .and .u32 (W tb) (W td)) (bits .andNot .u32 (W tc) (W td)) = W f := by
              rw [W_and, W_andNot, W_or, ← hF]
              unfold mF
              rw [if_neg (by omega), if_pos (by omega)]
            have hati : (5 * (k : Int) + 1) % 16 = ((mAt k : Nat) : Int) := by rw [HAT.out]; omega
            generalize hAK : mAt k = ak at hat htc hati
            clear hAK
            have hq' : (k : Int) / 16 = 1 := by omega
            have hat' : (ak : Int) < 16 := by omega
            have hidx := index77 5 9 14 20 (k % 4) ((k : Int) % 4) (mTurn k) (by omega) (by omega) (turn_at 1 k (by decide) hq)
            generalize hTU : mTurn k = tn at hidx hY
            have HTU : Hid (mTurn k = tn) := hTU
            have HY : Hid (rotl x3 tn = y) := hY
            have htn : tn < 32 := by rw [← hTU]; exact turn_lt k
            have HQ : Hid (∀ w, Calls Try.prog 47 #[.int .u32 (W x3), .int .i64 (tn : Int)] w fun e w' => e = .returned (.int .u32 (W y)) ∧ w' = w) := fun w => by have := rotl_same x3 tn w htn; rw [HY.out] at this; exact this
            clear hq hTU hF hY
            dsimp only
            go_wp2_with fail
            go_quiet (fail)
            go_wp2_with fail
            go_quiet ((go_at_call 47; exact (HQ.out _).mono (fun _ _ h => ⟨h.1, _, h.2⟩)))
            go_wp2
            go_roundw
            case rel =>
              refine ⟨k + 1, by omega, by go_num, ?_, ?_, ?_, ?_, HW.out, below_drewN hnx _⟩
              all_goals rw [HR.out]
              · rfl
              · rw [HZ.out, a4]
              · rfl
              · rfl
            case measure => simp [intOf]; omega
          · have HAT : Hid (mAt k = (3 * k + 5) % 16) := by show _ = _; unfold mAt; rw [if_neg (by omega), if_neg (by omega), if_pos (by omega)]
            have HF : Hid (mF k tb tc td = f) := hF
            have f1 : bits .xor .u32 (bits .xor .u32 (W tb) (W tc)) (W td) = W f := by
              rw [W_xor, W_xor, ← hF]
              unfold mF
              rw [if_neg (by omega), if_neg (by omega), if_pos (by omega)]
            have hati : (3 * (k : Int) + 5) % 16 = ((mAt k : Nat) : Int) := by rw [HAT.out]; omega
            generalize hAK : mAt k = ak at hat htc hati
            clear hAK
            have hq' : (k : Int) / 16 = 2 := by omega
            have hat' : (ak : Int) < 16 := by omega
            have hidx := index77 4 11 16 23 (k % 4) ((k : Int) % 4) (mTurn k) (by omega) (by omega) (turn_at 2 k (by decide) hq)
            generalize hTU : mTurn k = tn at hidx hY
            have HTU : Hid (mTurn k = tn) := hTU
            have HY : Hid (rotl x3 tn = y) := hY
            have htn : tn < 32 := by rw [← hTU]; exact turn_lt k
            have HQ : Hid (∀ w, Calls Try.prog 47 #[.int .u32 (W x3), .int .i64 (tn : Int)] w fun e w' => e = .returned (.int .u32 (W y)) ∧ w' = w) := fun w => by have := rotl_same x3 tn w htn; rw [HY.out] at this; exact this
            clear hq hTU hF hY
            dsimp only
            go_wp2_with fail
            go_quiet (fail)
            go_wp2_with fail
            go_quiet ((go_at_call 47; exact (HQ.out _).mono (fun _ _ h => ⟨h.1, _, h.2⟩)))
            go_wp2
            go_roundw
            case rel =>
              refine ⟨k + 1, by omega, by go_num, ?_, ?_, ?_, ?_, HW.out, below_drewN hnx _⟩
              all_goals rw [HR.out]
              · rfl
              · rw [HZ.out, a4]
              · rfl
              · rfl
            case measure => simp [intOf]; omega
          · have HAT : Hid (mAt k = 7 * k % 16) := by show _ = _; unfold mAt; rw [if_neg (by omega), if_neg (by omega), if_neg (by omega)]
            have HF : Hid (mF k tb tc td = f) := hF
            have f1 : bits .xor .u32 (W tc) (bits .or .u32 (W tb) (bits .xor .u32 IntKind.u32.max (W td))) = W f := by
              rw [W_not, W_or, W_xor, ← hF]
              unfold mF
              rw [if_neg (by omega), if_neg (by omega), if_neg (by omega)]
            have hati : 7 * (k : Int) % 16 = ((mAt k : Nat) : Int) := by rw [HAT.out]; omega
            generalize hAK : mAt k = ak at hat htc hati
            clear hAK
            have hq' : (k : Int) / 16 = 3 := by omega
            have hat' : (ak : Int) < 16 := by omega
            have hidx := index77 6 10 15 21 (k % 4) ((k : Int) % 4) (mTurn k) (by omega) (by omega) (turn_at 3 k (by decide) hq)
            generalize hTU : mTurn k = tn at hidx hY
            have HTU : Hid (mTurn k = tn) := hTU
            have HY : Hid (rotl x3 tn = y) := hY
            have htn : tn < 32 := by rw [← hTU]; exact turn_lt k
            have HQ : Hid (∀ w, Calls Try.prog 47 #[.int .u32 (W x3), .int .i64 (tn : Int)] w fun e w' => e = .returned (.int .u32 (W y)) ∧ w' = w) := fun w => by have := rotl_same x3 tn w htn; rw [HY.out] at this; exact this
            clear hq hTU hF hY
            dsimp only
            go_wp2_with fail
            go_quiet (fail)
            go_wp2_with fail
            go_quiet ((go_at_call 47; exact (HQ.out _).mono (fun _ _ h => ⟨h.1, _, h.2⟩)))
            go_wp2
            go_roundw
            case rel =>
              (repeat apply Exists.intro)
              refine ⟨?_, rfl⟩
              refine ⟨k + 1, by omega, by go_num, ?_, ?_, ?_, ?_, HW.out, below_drewN hnx _⟩
              all_goals rw [HR.out]
              · rfl
              · rw [HZ.out, a4]
              · rfl
              · rfl
            case measure => simp [intOf]; omega
        · obtain rfl : k = 64 := by omega
          have hS : Wds wr g 72 [s.a, s.b, s.c, s.d] := HS.out.below hnx hglt
          have s0 : wr.cell? ⟨g, 0, none⟩ = some (.int .u32 (W s.a)) := hS.cell (k := 0) (by simp)
          have s1 : wr.cell? ⟨g, 1, none⟩ = some (.int .u32 (W s.b)) := hS.cell (k := 1) (by simp)
          have s2 : wr.cell? ⟨g, 2, none⟩ = some (.int .u32 (W s.c)) := hS.cell (k := 2) (by simp)
          have s3 : wr.cell? ⟨g, 3, none⟩ = some (.int .u32 (W s.d)) := hS.cell (k := 3) (by simp)
          have z0 := hS.frozen 0
          have z1 := hS.frozen 1
          have z2 := hS.frozen 2
          have z3 := hS.frozen 3
          have HS2 : Hid (Wds wr g 72 [s.a, s.b, s.c, s.d]) := hS
          clear hS
          generalize hM0 : mRounds (fun j => le4 l (4 * j)) 64 s = t at *
          obtain ⟨ta, tb, tc, td⟩ := t
          have HM : Hid (mRounds (fun j => le4 l (4 * j)) 64 s = ⟨ta, tb, tc, td⟩) := hM0
          clear hM0
          dsimp only
          go_wp2_with fail
          go_region
          go_wp2_with fail
          go_region
          go_wp2_with fail
          go_region
          go_wp2_with fail
          go_region
          go_wp2
          refine bodyPost_end (results_none rfl _ _ _) rfl ?_
          refine ⟨rfl, ?_, ?_⟩
          · have g0 : w.grownBy wr (some g) := below_grown hnx _
            exact grown_drew (grown_drew (grown_drew (grown_drew (grown_setCell (p := ⟨g, 3, none⟩) (grown_setCell (p := ⟨g, 2, none⟩) (grown_setCell (p := ⟨g, 1, none⟩) (grown_setCell (p := ⟨g, 0, none⟩) g0 rfl _) rfl _) rfl _) rfl _))))
          · rw [W_addm, W_addm, W_addm, W_addm]
            have := (((HS2.out.set 0 (s.a + ta)).set 1 (s.b + tb)).set 2 (s.c + tc)).set 3 (s.d + td)
            simp only [mMix, HM.out]
            exact this
end Go.Proofs.Ytdgoepnopenpkaa
