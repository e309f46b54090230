/-
  The walk of the statement HashBursts out of the contracts of what it calls.
-/
import Derived.Test.YtdgoepnopenpkaaHmac
import Derived.Test.YtdgoepnopenpkaaAwake
import Derived.Test.YtdgoepnopenpkaaBurstB
import Derived.BigRegion
namespace Go.Proofs.Ytdgoepnopenpkaa
open Go.RowKit

/-- A row of bytes at a known block: its bytes, and how a store turns them. -/
theorem own_cell {w : World} {base g n cap : Nat} {l : List UInt8} (h : Own w base (.slice (some ⟨g, 0, none⟩) n cap) l) {k : Nat} (hk : k < l.length) : w.cell? ⟨g, k, none⟩ = some (.int .u8 ((l.getD k 0).toNat : Int)) ∧ w.frozen? ⟨g, k, none⟩ = false ∧ base ≤ g := by
  have hg : (l.getD k 0) = l[k] := by simp [List.getD, hk]
  obtain ⟨hl, ⟨hv, _⟩ | ⟨g', cap', cur, hv, hb, hh, hnc, hcm, hcs, htk⟩⟩ := h
  · simp at hv
  · simp only [Value.slice.injEq, Option.some.injEq, Addr.mk.injEq, and_true] at hv
    obtain ⟨rfl, _, _⟩ := hv
    refine ⟨?_, by simp [World.frozen?, hh], hb⟩
    rw [cell_of_row w g k cur 5 (0, 0) hh, hg, ← bcs_get hk, ← htk, List.getElem?_take_of_lt (by omega)]
    simp
theorem own_set {w : World} {base g n cap : Nat} {l : List UInt8} (h : Own w base (.slice (some ⟨g, 0, none⟩) n cap) l) (k : Nat) (x : UInt8) (_hk : k < l.length) : Own (w.setCell ⟨g, k, none⟩ (.int .u8 (x.toNat : Int))) base (.slice (some ⟨g, 0, none⟩) n cap) (l.set k x) := by
  obtain ⟨hl, ⟨hv, _⟩ | ⟨g', cap', cur, hv, hb, hh, hnc, hcm, hcs, htk⟩⟩ := h
  · simp at hv
  · simp only [Value.slice.injEq, Option.some.injEq, Addr.mk.injEq, and_true] at hv
    obtain ⟨rfl, rfl, rfl⟩ := hv
    refine ⟨by simp [bcs_length], .inr ⟨g, cap, cur.setIfInBounds k (.int .u8 (x.toNat : Int)), by rw [List.length_set], hb, ?_, by rw [List.length_set]; exact hnc, hcm, by simp [hcs], ?_⟩⟩
    · rw [setCell_eq_setRow w g k cur 5 (0, 0) _ hh, setRow_heap w g _ _ 5 (0, 0) hh]
    · rw [List.length_set, Array.toList_setIfInBounds, List.take_set, htk]
      simp [bcs, List.map_set]

theorem pat_true {P k : Nat} (hP : P < 4294967296) (h : P.testBit k = true) : bits .and .u32 ((P : Int) / (2 : Int) ^ k) 1 = 1 := by
  have e : (P : Int) = W (BitVec.ofNat 32 P) := (W_ofNat hP).symm
  rw [e, W_shr, W_and1]
  unfold W
  rw [BitVec.toNat_and, BitVec.toNat_ushiftRight, BitVec.toNat_ofNat, Nat.mod_eq_of_lt (by omega), Nat.shiftRight_eq_div_pow]
  rw [Nat.testBit_eq_decide_div_mod_eq, decide_eq_true_eq] at h
  have e1 : (1 : Wd).toNat = 1 := rfl
  rw [e1, Nat.and_one_is_mod, h]
  rfl
theorem pat_false {P k : Nat} (hP : P < 4294967296) (h : P.testBit k = false) : bits .and .u32 ((P : Int) / (2 : Int) ^ k) 1 = 0 := by
  have e : (P : Int) = W (BitVec.ofNat 32 P) := (W_ofNat hP).symm
  rw [e, W_shr, W_and1]
  unfold W
  rw [BitVec.toNat_and, BitVec.toNat_ushiftRight, BitVec.toNat_ofNat, Nat.mod_eq_of_lt (by omega), Nat.shiftRight_eq_div_pow]
  rw [Nat.testBit_eq_decide_div_mod_eq, decide_eq_false_iff_not] at h
  have e1 : (1 : Wd).toNat = 1 := rfl
  rw [e1, Nat.and_one_is_mod]
  omega
theorem bit_shl : ∀ r : Nat, r < 8 → (2 : Int) ^ r % 256 = ((bitB r).toNat : Int) := by decide +kernel
set_option maxHeartbeats 2000000 in
theorem hashBursts_mid (a : Option Addr) (l : List UInt8) (cap : Nat) (at_ pat : Int) (w : World) (_hat : -9223372036854775808 ≤ at_ ∧ at_ ≤ 9223372036854775807) (hpat : 0 ≤ pat ∧ pat ≤ 4294967295) (_hcap : l.length ≤ cap) (hn : a = none → cap = 0) (h0 : 0 < l.length) (h5 : l.length ≤ 5000) (hb : Bytes w a l) :
    Calls Try.prog 7 #[.slice a l.length cap, .int .i64 at_, .int .u32 pat] w fun e w' => e = .returned (.bool true) ∧ Below w.heap.size w w' := by
  have HBB : Hid (Bytes w a l) := hb
  have HN : Hid (a = none → cap = 0) := hn
  have hO0 : Own (w.alloc (.cells #[] 5)) w.heap.size (.slice (some ⟨w.heap.size, 0, none⟩) 0 0) [] := World.ownsRow_lit w #[] 0 (Nat.le_refl _) (by decide) rfl
  have HO0 : Hid (Own (w.alloc (.cells #[] 5)) w.heap.size (.slice (some ⟨w.heap.size, 0, none⟩) 0 0) []) := hO0
  have HBk : Hid (Bytes (w.alloc (.cells #[] 5)) a l) := hb.below ((Below.refl _ w).alloc (Nat.le_refl _) _) (Nat.le_refl _)
  have hB0 : Below w.heap.size w (w.alloc (.cells #[] 5)) := (Below.refl _ w).alloc (Nat.le_refl _) _
  have h0i : ((l.length : Int) == 0) = false := by rw [beq_eq_false_iff_ne]; omega
  obtain ⟨P, rfl⟩ := Int.eq_ofNat_of_zero_le hpat.1
  have hP : P < 4294967296 := by omega
  clear hb hn hO0
  go_enter Try.func7, Try.ntmps7
  go_wp2_with (at_builtin; refine wpList_append_bytes rfl _ _ rfl w.heap.size (.slice (some ⟨w.heap.size, 0, none⟩) 0 0) [] rfl HO0.out a l cap rfl HBk.out HN.out (by rw [List.length_nil]; omega) (by simp) ?_; intro v1 w1 ho1 hg1; have hB1 : Below w.heap.size w w1 := hB0.grown hg1 (by simp) (by intro j hj; simp [Value.ownBlock] at hj; omega); rw [List.nil_append] at ho1; obtain ⟨x1, c1, rfl, hx1, _, hc1⟩ := ho1.bytes'; clear hg1)
  obtain ⟨g, off, rfl, _, _⟩ := hx1.at (k := 0) h0
  have hoff : off = 0 ∧ w.heap.size ≤ g := by
    rcases ho1.2 with ⟨hv, _⟩ | ⟨g', c', cur, hv, hb', _⟩
    · simp at hv
    · simp only [Value.slice.injEq, Option.some.injEq, Addr.mk.injEq, and_true, true_and] at hv
      exact ⟨hv.1.2, by omega⟩
  obtain ⟨rfl, hgw⟩ := hoff
  obtain ⟨e, he⟩ : ∃ e : Nat, e = 8 * l.length := ⟨_, rfl⟩
  have hei : 8 * (l.length : Int) = (e : Int) := by omega
  have he0 : (0 : Int) < (e : Int) := by omega
  have HE : Hid (e = 8 * l.length) := he
  have h1 : -(e : Int) < Int.tmod at_ e := by
    rcases Int.le_total 0 at_ with h | h
    · have := Int.tmod_nonneg (e : Int) h
      omega
    · have h2 : Int.tmod (-at_) e < e := Int.tmod_lt_of_pos _ he0
      rw [Int.neg_tmod] at h2
      omega
  have h2 : Int.tmod at_ e < e := Int.tmod_lt_of_pos _ he0
  obtain ⟨q, hq⟩ : ∃ q : Nat, Int.tmod at_ e + (e : Int) = (q : Int) := ⟨(Int.tmod at_ e + (e : Int)).toNat, by omega⟩
  have hqb : q ≤ 80000 := by omega
  have heb : e ≤ 40000 := by omega
  obtain ⟨p, hp⟩ : ∃ p : Nat, p = q % e := ⟨_, rfl⟩
  have hpe0 : p < e := by rw [hp]; exact Nat.mod_lt _ (by omega)
  have hp1 : Int.tmod (q : Int) (e : Int) = (p : Int) := by rw [hp, Int.tmod_eq_emod_of_nonneg (by omega)]; omega
  have hp2 : (q : Int) % (e : Int) = (p : Int) := by rw [hp]; omega
  clear h1 h2 hp
  have HO1 : Hid (Own w1 w.heap.size (.slice (some ⟨g, 0, none⟩) l.length c1) l) := ho1
  clear hx1 HO0 HBk hB0 he
  go_loopw [9, 10] (fun t i wr => ∃ k : Nat, k ≤ 32 ∧ i = .int .i64 k ∧ t = .bool (tB l p P k) ∧ Own wr w.heap.size (.slice (some ⟨g, 0, none⟩) l.length c1) (cB l p P k) ∧ Below w.heap.size w wr) (fun _ i _ => 32 - (intOf i).toNat)
  case atStart => exact ⟨0, by omega, rfl, rfl, HO1.out, hB1⟩
  case round =>
    clear HO1 hB1 ho1
    obtain ⟨k, hk, rfl, rfl, ho, hnx⟩ := hrel
    have HO : Hid (Own wr w.heap.size (.slice (some ⟨g, 0, none⟩) l.length c1) (cB l p P k)) := ho
    clear ho
    by_cases hlt : k < 32
    · have hlt' : (k : Int) < 32 := by omega
      cases hbit : P.testBit k with
      | false =>
        have hpf := pat_false hP hbit
        have HT : Hid (tB l p P (k + 1) = tB l p P k ∧ cB l p P (k + 1) = cB l p P k) := by
          refine ⟨?_, ?_⟩
          · rw [tB, hbit, if_neg (by simp)]
          · rw [cB, hbit, if_neg (by simp)]
        clear hbit
        go_wp2
        go_roundw
        case rel =>
          refine ⟨k + 1, by omega, by go_num, by rw [HT.out.1], ?_, hnx⟩
          rw [HT.out.2]
          exact HO.out
        case measure => simp [intOf]; omega
      | true =>
        have hpt := pat_true hP hbit
        by_cases hpe : p + k < e
        · have hpe' : (p : Int) + (k : Int) < (e : Int) := by omega
          have HT : Hid (tB l p P (k + 1) = true ∧ cB l p P (k + 1) = flip (cB l p P k) (p + k)) := by
            have := HE.out
            refine ⟨?_, ?_⟩
            · rw [tB, if_pos ⟨hbit, by omega⟩]
            · rw [cB, if_pos ⟨hbit, by omega⟩]
          have hil : (p + k) / 8 < (cB l p P k).length := by have := HE.out; rw [cB_length]; omega
          obtain ⟨hcell, hfr, _⟩ := own_cell HO.out hil
          have HIL : Hid ((p + k) / 8 < (cB l p P k).length) := hil
          have hxor := xor_u8 ((cB l p P k).getD ((p + k) / 8) 0) (bitB ((p + k) % 8))
          have hsh := bit_shl ((p + k) % 8) (Nat.mod_lt _ (by decide))
          have hr8 : (p + k) % 8 < 8 := Nat.mod_lt _ (by decide)
          have hdi : ((p : Int) + (k : Int)) / 8 = (((p + k) / 8 : Nat) : Int) := by omega
          have hmi : ((p : Int) + (k : Int)) % 8 = (((p + k) % 8 : Nat) : Int) := by omega
          have hil2 : (((p + k) / 8 : Nat) : Int) < (l.length : Int) := by have := HE.out; omega
          have HFL : Hid (flip (cB l p P k) (p + k) = (cB l p P k).set ((p + k) / 8) ((cB l p P k).getD ((p + k) / 8) 0 ^^^ bitB ((p + k) % 8))) := rfl
          generalize (p + k) / 8 = i at *
          generalize (p + k) % 8 = r at *
          generalize (cB l p P k).getD i 0 = x at *
          generalize x ^^^ bitB r = y at *
          have hbl : ((bitB r).toNat : Int) ≤ 255 := by have := (bitB r).toNat_lt; omega
          generalize ((bitB r).toNat : Int) = z at *
          clear hbit hil
          go_wp2_with fail
          go_region
          go_wp2
          go_roundw
          case rel =>
            refine ⟨k + 1, by omega, by go_num, by rw [HT.out.1], ?_, ?_⟩
            · rw [HT.out.2, HFL.out]
              exact own_set HO.out i y HIL.out
            · exact (hnx.setCell hgw _).drew
          case measure => simp [intOf]; omega
        · have hpe' : decide ((p : Int) + (k : Int) < (e : Int)) = false := decide_eq_false (by omega)
          have hpe'' : (e : Int) ≤ (p : Int) + (k : Int) := by omega
          have HT : Hid (tB l p P (k + 1) = tB l p P k ∧ cB l p P (k + 1) = cB l p P k) := by
            have := HE.out
            refine ⟨?_, ?_⟩
            · rw [tB, if_neg (by omega)]
            · rw [cB, if_neg (by omega)]
          clear hbit hpe
          go_wp2
          go_roundw
          case rel =>
            refine ⟨k + 1, by omega, by go_num, by rw [HT.out.1], ?_, hnx⟩
            rw [HT.out.2]
            exact HO.out
          case measure => simp [intOf]; omega
    · obtain rfl : k = 32 := by omega
      have HBU : Hid (tB l p P 32 = (crcL l != crcL (cB l p P 32))) := burst l p P hP
      have hlen := cB_length l p P 32
      have HLEN : Hid ((cB l p P 32).length = l.length) := hlen
      generalize cB l p P 32 = C at *
      generalize tB l p P 32 = T at *
      obtain ⟨xc, cc, hv, hxc⟩ := Own.bytes HO.out
      have HXC : Hid (Bytes wr (some ⟨g, 0, none⟩) C) := by
        simp only [Value.slice.injEq] at hv
        obtain ⟨rfl, _, _⟩ := hv
        exact hxc
      have HB : Hid (Bytes wr a l) := HBB.out.below hnx (Nat.le_refl _)
      clear hv hxc HO hlen
      have hsz := hnx.size
      go_wp2_with fail
      refine (crc_any a l cap _ (by omega) HB.out).mono ?_
      rintro e1 w2 ⟨rfl, hb2⟩
      have HX2 : Hid (Bytes w2 (some ⟨g, 0, none⟩) C) := HXC.out.below hb2 (Nat.le_refl _)
      have hB2 : Below w.heap.size w w2 := step_below hnx hb2 (Nat.le_refl _)
      have HC : Hid _ := crc_any (some ⟨g, 0, none⟩) C c1 w2 (by rw [HLEN.out]; omega) HX2.out
      rw [HLEN.out] at HC
      clear hb2 hnx HXC HB
      go_wp2_with fail
      refine Calls.mono HC.out ?_
      rintro e2 w3 ⟨rfl, hb3⟩
      have hB3 : Below w.heap.size w w3 := step_below hB2 hb3 (Nat.le_refl _)
      have hT : (W (crcL l) != W (crcL C)) = T := by
        rw [HBU.out]
        cases h : crcL l != crcL C with
        | true =>
          rw [bne_iff_ne] at h ⊢
          exact fun e => h (W_inj e)
        | false =>
          have : crcL l = crcL C := by simpa using h
          rw [this]
          simp
      have HTT : Hid ((W (crcL l) != W (crcL C)) = T) := hT
      clear hb3 hB2 HX2 HC HBU
      generalize W (crcL l) = A at *
      generalize W (crcL C) = B at *
      subst hT
      have hbb : ((A != B) == (A != B)) = true := by simp
      go_wp2_with fail
      refine (awake_any _).mono ?_
      rintro e3 w4 ⟨rfl, hb4⟩
      have hB4 : Below w.heap.size w w4 := step_below hB3 hb4 (Nat.le_refl _)
      clear hb4 hB3
      go_wp2
      go_ret
      exact ⟨rfl, hB4⟩

set_option maxHeartbeats 1000000 in
theorem hashBursts_walk (a : Option Addr) (l : List UInt8) (cap : Nat) (at_ pat : Int) (w : World) (hat : -9223372036854775808 ≤ at_ ∧ at_ ≤ 9223372036854775807) (hpat : 0 ≤ pat ∧ pat ≤ 4294967295) (hcap : l.length ≤ cap) (hn : a = none → cap = 0) (_hl : l.length ≤ 140737488351232) (hb : Bytes w a l) :
    Calls Try.prog 7 #[.slice a l.length cap, .int .i64 at_, .int .u32 pat] w fun e w' => e = .returned (.bool true) ∧ Below w.heap.size w w' := by
  by_cases h0 : l.length = 0
  · have h0i : (l.length : Int) = 0 := by omega
    clear hb hn hcap
    rw [h0]
    go_enter Try.func7, Try.ntmps7
    go_wp2_with fail
    refine (awake_any _).mono ?_
    rintro e w1 ⟨rfl, hb1⟩
    go_wp2
    go_ret
    exact ⟨rfl, hb1⟩
  · by_cases h5 : 5000 < l.length
    · have h0i : ((l.length : Int) == 0) = false := by rw [beq_eq_false_iff_ne]; omega
      clear hb hn hcap
      go_enter Try.func7, Try.ntmps7
      go_wp2_with fail
      refine (awake_any _).mono ?_
      rintro e w1 ⟨rfl, hb1⟩
      go_wp2
      go_ret
      exact ⟨rfl, hb1⟩
    · exact hashBursts_mid a l cap at_ pat w hat hpat hcap hn (by omega) (by omega) hb
end Go.Proofs.Ytdgoepnopenpkaa
