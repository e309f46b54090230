/-
  The walk of the statement HashStreams out of the contracts of what it calls.
-/
import Derived.Test.YtdgoepnopenpkaaStreamSum
import Derived.Test.YtdgoepnopenpkaaLawSums
import Derived.Test.YtdgoepnopenpkaaLawBursts
namespace Go.Proofs.Ytdgoepnopenpkaa
open Go.RowKit

/-- The slice's head leads to slices of bytes, told by a list of lists. -/
def Rws (w : World) (la : Option Addr) (L : List (List UInt8)) : Prop :=
  L = [] ∨ ∃ b off, la = some ⟨b, off, none⟩ ∧ b < w.heap.size ∧ ∀ j (h : j < L.length), ∃ a c, w.cell? ⟨b, off + j, none⟩ = some (.slice a L[j].length c) ∧ Bytes w a L[j] ∧ L[j].length ≤ c ∧ (a = none → c = 0)
/-- The first j pieces behind each other. -/
def J (L : List (List UInt8)) (j : Nat) : List UInt8 := (L.take j).flatten
theorem J_succ {L : List (List UInt8)} {j : Nat} (h : j < L.length) : J L (j + 1) = J L j ++ L[j] := by
  unfold J
  rw [List.take_succ_eq_append_getElem h, List.flatten_append]
  simp
theorem J_le (L : List (List UInt8)) (j : Nat) : (J L j).length ≤ L.flatten.length := by
  unfold J
  conv => rhs; rw [← List.take_append_drop j L, List.flatten_append, List.length_append]
  omega
theorem J_row {L : List (List UInt8)} {j : Nat} (h : j < L.length) : (J L j).length + L[j].length ≤ L.flatten.length := by
  have := J_le L (j + 1)
  rw [J_succ h, List.length_append] at this
  exact this
theorem md5L_le (l : List UInt8) : (md5L l).length ≤ 64 := by
  have h := md5Out_len (eat mMix (mfin (rest l) l.length) (eat mMix l mInit)) 4 (by decide)
  have e : (md5L l).length = 4 * 4 := h
  omega
theorem shaL_le (l : List UInt8) : (shaL l).length ≤ 64 := by
  have h := shaOut_len (eat sMix (sfin (rest l) l.length) (eat sMix l sInit)) 8 (by decide)
  have e : (shaL l).length = 4 * 8 := h
  omega
theorem ownS_some {w : World} {base n c : Nat} {x : Option Addr} {l : List UInt8} (h : Own w base (.slice x n c) l) (hl : 0 < l.length) : ∃ g, x = some ⟨g, 0, none⟩ ∧ base ≤ g := by
  obtain ⟨_, ⟨hv, hn⟩ | ⟨g, cap, cur, hv, hb, _⟩⟩ := h
  · omega
  · simp only [Value.slice.injEq] at hv
    exact ⟨g, hv.1, hb⟩


set_option maxHeartbeats 8000000 in
set_option maxRecDepth 20000 in
theorem hashStreams_md5 (la : Option Addr) (L : List (List UInt8)) (lc : Nat) (ask : Int) (w : World) (hrw : Rws w la L) (hsum : L.flatten.length ≤ 1048576) (hLl : L.length ≤ 1048576) :
    Calls Try.prog 6 #[.int .i64 1, .slice la L.length lc, .int .i64 ask] w fun e w' => e = .returned (.bool true) ∧ Below w.heap.size w w' := by
  go_enter Try.func6, Try.ntmps6
  go_wp2_with fail
  refine (new_md5 _).mono ?_
  rintro e w1 ⟨rfl, hw1⟩
  obtain ⟨hsi, hB1, hz1⟩ := new_kind_md5 w w1 hw1
  obtain ⟨SI, K, hsi'⟩ : ∃ SI, Kind (w.heap.size + 1) w.heap.size SI md5L ∧ SI w1 [] := ⟨_, kind_md5 _ _, hsi⟩
  have HK : Hid (Kind (w.heap.size + 1) w.heap.size SI md5L) := K
  have HS1 : Hid (SI w1 []) := hsi'
  have HRW : Hid (Rws w la L) := hrw
  have HSM : Hid (L.flatten.length ≤ 1048576) := hsum
  have HO1 : Hid (Own w1 (w.heap.size + 2) (.slice none 0 0) []) := World.ownsRow_nil w1 _ _ _
  have HZ1 : Hid (w1.heap.size = w.heap.size + 2) := hz1
  have HB1 : Hid (Below w.heap.size w w1) := hB1
  clear hw1 hsi K hsi' hrw hB1 hz1 hsum
  go_wp2_with fail
  go_loopw [9, 10] (fun v i wr => ∃ j : Nat, j ≤ L.length ∧ j ≤ 50 ∧ i = .int .i64 j ∧ Own wr (w.heap.size + 2) v (J L j) ∧ SI wr (J L j) ∧ Below w.heap.size w wr ∧ w.heap.size + 2 ≤ wr.heap.size) (fun _ i _ => 50 - (intOf i).toNat)
  case atStart => exact ⟨0, by omega, by omega, rfl, HO1.out, HS1.out, HB1.out, by have := HZ1.out; omega⟩
  case round =>
    clear HO1 HS1 HB1 HZ1
    obtain ⟨j, hjL, hj50, rfl, ho, hs, hnx, hsz⟩ := hrel
    have HO : Hid (Own wr (w.heap.size + 2) u9 (J L j)) := ho
    have HS : Hid (SI wr (J L j)) := hs
    have HNX : Hid (Below w.heap.size w wr) := hnx
    clear ho hs hnx
    by_cases hin : j < L.length ∧ j < 50
    · obtain ⟨hin1, hin2⟩ := hin
      have hi1 : (j : Int) < (L.length : Int) := by omega
      have hi2 : (j : Int) < 50 := by omega
      obtain ⟨lb, lo, hla, hlb, hrows⟩ : ∃ b off, la = some ⟨b, off, none⟩ ∧ b < w.heap.size ∧ ∀ j (h : j < L.length), ∃ a c, w.cell? ⟨b, off + j, none⟩ = some (.slice a L[j].length c) ∧ Bytes w a L[j] ∧ L[j].length ≤ c ∧ (a = none → c = 0) := by
        rcases HRW.out with h | h
        · subst h; simp at hin1
        · exact h
      subst hla
      obtain ⟨ra, rc, hrc, hrb, hrl, hrn⟩ := hrows j hin1
      have hJs := J_succ hin1
      have hJr := J_row hin1
      obtain ⟨row, hrow⟩ : ∃ row, L[j] = row := ⟨_, rfl⟩
      obtain ⟨Jl, hJl⟩ : ∃ x, J L j = x := ⟨_, rfl⟩
      rw [hrow] at hrc hrb hrl hJs hJr
      rw [hJl] at hJs hJr HO HS
      have HJS : Hid (J L (j + 1) = Jl ++ row) := hJs
      have HJR : Hid (Jl.length + row.length ≤ 1048576) := by have := HSM.out; show _ ≤ _; omega
      have HRB : Hid (Bytes w ra row) := hrb
      have HRN : Hid (ra = none → rc = 0) := hrn
      have HRC : Hid (∀ wx, Below w.heap.size w wx → wx.cell? ⟨lb, lo + j, none⟩ = some (.slice ra row.length rc)) := fun wx hx => (hx.cell (p := ⟨lb, lo + j, none⟩) hlb).trans hrc
      have hal : Below w.heap.size w (wr.alloc (.cells #[] 5)) := HNX.out.alloc (by have := HNX.out.size; omega) _
      have HAL : Hid (Below w.heap.size w (wr.alloc (.cells #[] 5))) := hal
      have ca := HRC.out _ HNX.out
      have cb := HRC.out _ hal
      have HO0 : Hid (Own (wr.alloc (.cells #[] 5)) wr.heap.size (.slice (some ⟨wr.heap.size, 0, none⟩) 0 0) []) := World.ownsRow_lit wr #[] 0 (Nat.le_refl _) (by decide) rfl
      have HBk : Hid (Bytes (wr.alloc (.cells #[] 5)) ra row) := hrb.below hal (Nat.le_refl _)
      have hrowb : row.length ≤ 1048576 := by have := HJR.out; omega
      clear hrows hrc hrb hrl hrn hJs hJr hrow hJl hal hin1 hin2
      go_wp2_with (at_builtin; refine wpList_append_bytes rfl _ _ rfl wr.heap.size (.slice (some ⟨wr.heap.size, 0, none⟩) 0 0) [] rfl HO0.out ra row rc rfl HBk.out HRN.out (by rw [List.length_nil]; omega) (by simp) ?_; intro v1 w2 ho1 hg1; rw [List.nil_append] at ho1; obtain ⟨x1, c1, rfl, hx1, _, hc1⟩ := ho1.bytes')
      have hblk : ∀ i, i < wr.heap.size → w2.heap[i]? = wr.heap[i]? := fun i hi => by
        rw [hg1.block i (by simp; omega) (by simp [Value.ownBlock]; omega)]
        exact Below.heap_alloc _ _ _ hi
      have hB2 : Below w.heap.size w w2 := HAL.out.grown hg1 (by simp; omega) (by intro j hj; simp [Value.ownBlock] at hj; omega)
      have hl2 := HK.out.lt _ _ HS.out
      have HS2 : Hid (SI w2 Jl) := HK.out.of _ _ _ HS.out (hblk _ hl2.1) (hblk _ hl2.2)
      have HO2 : Hid (Own w2 (w.heap.size + 2) u9 Jl) := ownS_other HO.out (fun i hi => hblk i (World.ownsRow.lt HO.out i hi).2)
      have HA2 : Hid (∀ i, u9.ownBlock = some i → i < wr.heap.size) := fun i hi => (World.ownsRow.lt HO.out i hi).2
      have hs2 : wr.heap.size ≤ w2.heap.size := by have := hg1.size; simp at this; omega
      have HP2 : Hid (Own w2 wr.heap.size (.slice x1 row.length c1) row) := ho1
      have hab : 0 < row.length → ∀ ad, x1 = some ad → ad.block ≠ w.heap.size + 1 ∧ ad.block ≠ w.heap.size := by
        intro h ad e
        obtain ⟨g, hg, hgb⟩ := ownS_some ho1 h
        rw [hg] at e
        cases e
        show g ≠ _ ∧ g ≠ _
        omega
      have HW : Hid _ := HK.out.write Jl x1 row c1 w2 HS2.out hc1 (by have := HJR.out; omega) hx1 hab
      obtain ⟨pb, hpb⟩ : ∃ pb, wr.heap.size = pb := ⟨_, rfl⟩
      rw [hpb] at HA2 HP2 hsz hs2
      clear HO HS HNX HAL ca cb HO0 HBk ho1 hg1 hx1 hblk hl2 hab hpb hc1
      go_wp2_with fail
      refine Calls.mono HW.out ?_
      rintro e w3 ⟨rfl, hs3, hk3⟩
      have HS3 : Hid (SI w3 (Jl ++ row)) := hs3
      have HO3 : Hid (Own w3 (w.heap.size + 2) u9 Jl) := ownS_kept HO2.out hk3 (by omega) (by omega)
      have HP3 : Hid (Own w3 pb (.slice x1 row.length c1) row) := ownS_kept HP2.out hk3 (by omega) (by omega)
      have HB3 : Hid (Below w.heap.size w w3) := hB2.trans (hk3.below (by have := hB2.size; omega) (by omega) (by omega))
      have hs3' : pb ≤ w3.heap.size := by have := hk3.size; omega
      clear HS2 HO2 HP2 HW hB2 hs3 hk3 hs2
      go_wp2_with fail
      go_loopw [12] (fun i wr => ∃ (k : Nat) (c : List UInt8), k ≤ row.length ∧ i = .int .i64 k ∧ c.length = row.length ∧ Own wr pb (.slice x1 row.length c1) c ∧ SI wr (Jl ++ row) ∧ Own wr (w.heap.size + 2) u9 Jl ∧ Below w.heap.size w wr ∧ pb ≤ wr.heap.size) (fun i _ => row.length - (intOf i).toNat)
      case atStart => exact ⟨0, row, by omega, rfl, rfl, HP3.out, HS3.out, HO3.out, HB3.out, hs3'⟩
      case round =>
        clear HP3 HS3 HO3 HB3 hs3'
        obtain ⟨k, c, hk, rfl, hcl, hp4, hs4, ho4, hnx4, hz4⟩ := hrel
        have HP4 : Hid (Own wr pb (.slice x1 row.length c1) c) := hp4
        have HS4 : Hid (SI wr (Jl ++ row)) := hs4
        have HO4 : Hid (Own wr (w.heap.size + 2) u9 Jl) := ho4
        have HB4 : Hid (Below w.heap.size w wr) := hnx4
        clear hp4 hs4 ho4 hnx4
        by_cases hkl : k < row.length
        · have hkl' : (k : Int) < (row.length : Int) := by omega
          obtain ⟨pg, hpg, hpb⟩ := ownS_some HP4.out (by omega)
          subst hpg
          obtain ⟨hcell, hfr, _⟩ := own_cell HP4.out (k := k) (by omega)
          have hset := own_set HP4.out k 9 (by omega)
          rw [show (((9 : UInt8).toNat : Nat) : Int) = 9 from rfl] at hset
          have HE : Hid (Own (wr.setCell ⟨pg, k, none⟩ (.int .u8 9)) pb (.slice (some ⟨pg, 0, none⟩) row.length c1) (c.set k 9) ∧ SI (wr.setCell ⟨pg, k, none⟩ (.int .u8 9)) (Jl ++ row) ∧ Own (wr.setCell ⟨pg, k, none⟩ (.int .u8 9)) (w.heap.size + 2) u9 Jl ∧ Below w.heap.size w (wr.setCell ⟨pg, k, none⟩ (.int .u8 9))) := by
            have hg := grown_setCell (p := ⟨pg, k, none⟩) (grown_refl wr (some pg)) rfl (.int .u8 9)
            have hl4 := HK.out.lt _ _ HS4.out
            refine ⟨hset, HK.out.of _ _ _ HS4.out (hg.block _ hl4.1 (by simp; omega)) (hg.block _ hl4.2 (by simp; omega)), ownS_other HO4.out (fun i hi => hg.block i (World.ownsRow.lt HO4.out i hi).2 (by have := HA2.out i hi; simp; omega)), HB4.out.trans (grown_below hg (by have := HB4.out.size; omega) (by omega))⟩
          clear hset HP4 HS4 HO4 HB4
          go_wp2
          go_roundw
          case rel => exact ⟨k + 1, c.set k 9, by omega, by go_num, by simp [hcl], HE.out.1, HE.out.2.1, HE.out.2.2.1, HE.out.2.2.2, by simp; exact hz4⟩
          case measure => simp [intOf]; omega
        · have hkl' : ¬ (k : Int) < (row.length : Int) := by omega
          have cc := HRC.out _ HB4.out
          have HBr : Hid (Bytes wr ra row) := HRB.out.below HB4.out (Nat.le_refl _)
          have hjr := HJR.out
          clear HP4 hk hkl hcl HA2
          obtain ⟨w4, e⟩ : ∃ x, x = wr := ⟨_, rfl⟩
          subst e
          by_cases hask : (j : Int) = ask
          · have hq : ((j : Int) == ask) = true := by rw [beq_iff_eq]; exact hask
            clear hask
            go_wp2_with (at_builtin; refine wpList_append_bytes rfl _ _ rfl (w.heap.size + 2) u9 Jl rfl HO4.out ra row rc rfl HBr.out HRN.out (by omega) (by omega) ?_; intro v5 w5 ho5 hg5)
            have hl4 := HK.out.lt _ _ HS4.out
            have HS5 : Hid (SI w5 (Jl ++ row)) := HK.out.of _ _ _ HS4.out (hg5.block _ hl4.1 (by intro e; have := World.ownsRow.lt HO4.out _ e.symm; omega)) (hg5.block _ hl4.2 (by intro e; have := World.ownsRow.lt HO4.out _ e.symm; omega))
            have HB5 : Hid (Below w.heap.size w w5) := HB4.out.grown hg5 (by have := HB4.out.size; omega) (fun i hi => by have := World.ownsRow.lt HO4.out i hi; omega)
            have HO5 : Hid (Own w5 (w.heap.size + 2) v5 (Jl ++ row)) := ho5
            have hz5 : pb ≤ w5.heap.size := by have := hg5.size; omega
            clear ho5 hg5 HS4 HO4 HB4 cc HBr hl4
            have HQ : Hid _ := HK.out.sum (Jl ++ row) w5 HS5.out (by rw [List.length_append]; omega)
            go_wp2_with fail
            refine Calls.mono HQ.out ?_
            rintro e w6 ⟨v6, rfl, ho6, hb6⟩
            obtain ⟨Q, hQ⟩ : ∃ Q, md5L (Jl ++ row) = Q := ⟨_, rfl⟩
            have hQl : Q.length ≤ 64 := by rw [← hQ]; exact md5L_le _
            rw [hQ] at ho6
            obtain ⟨x6, c6, rfl, _, _, _⟩ := ho6.bytes'
            have hl5 := HK.out.lt _ _ HS5.out
            have HS6 : Hid (SI w6 (Jl ++ row)) := HK.out.of _ _ _ HS5.out (hb6.block _ hl5.1) (hb6.block _ hl5.2)
            have HO6 : Hid (Own w6 (w.heap.size + 2) v5 (Jl ++ row)) := ownS_below HO5.out hb6
            have HA6 : Hid (∀ i, v5.ownBlock = some i → i < w5.heap.size) := fun i hi => (World.ownsRow.lt HO5.out i hi).2
            have HB6 : Hid (Below w.heap.size w w6) := HB5.out.trans (hb6.mono HB5.out.size)
            have HP6 : Hid (Own w6 w5.heap.size (.slice x6 Q.length c6) Q) := ho6
            have hz6 : w5.heap.size ≤ w6.heap.size := hb6.size
            obtain ⟨qb, hqb⟩ : ∃ qb, w5.heap.size = qb := ⟨_, rfl⟩
            rw [hqb] at HA6 HP6 hz6 hz5
            clear HQ hQ ho6 hb6 hl5 HS5 HO5 HB5 hqb
            go_wp2_with fail
            go_loopw [14] (fun i wr => ∃ (k : Nat) (c : List UInt8), k ≤ Q.length ∧ i = .int .i64 k ∧ c.length = Q.length ∧ Own wr qb (.slice x6 Q.length c6) c ∧ SI wr (Jl ++ row) ∧ Own wr (w.heap.size + 2) v5 (Jl ++ row) ∧ Below w.heap.size w wr ∧ qb ≤ wr.heap.size) (fun i _ => Q.length - (intOf i).toNat)
            case atStart => exact ⟨0, Q, by omega, rfl, rfl, HP6.out, HS6.out, HO6.out, HB6.out, hz6⟩
            case round =>
              clear HP6 HS6 HO6 HB6 hz6
              obtain ⟨k, c, hk, rfl, hcl, hp4, hs4, ho4, hnx4, hz4⟩ := hrel
              have HP4 : Hid (Own wr qb (.slice x6 Q.length c6) c) := hp4
              have HS4 : Hid (SI wr (Jl ++ row)) := hs4
              have HO4 : Hid (Own wr (w.heap.size + 2) v5 (Jl ++ row)) := ho4
              have HB4 : Hid (Below w.heap.size w wr) := hnx4
              clear hp4 hs4 ho4 hnx4
              by_cases hkl : k < Q.length
              · have hkl' : (k : Int) < (Q.length : Int) := by omega
                obtain ⟨pg, hpg, hpb⟩ := ownS_some HP4.out (by omega)
                subst hpg
                obtain ⟨hcell, hfr, _⟩ := own_cell HP4.out (k := k) (by omega)
                have hset := own_set HP4.out k 0 (by omega)
                rw [show (((0 : UInt8).toNat : Nat) : Int) = 0 from rfl] at hset
                have HE : Hid (Own (wr.setCell ⟨pg, k, none⟩ (.int .u8 0)) qb (.slice (some ⟨pg, 0, none⟩) Q.length c6) (c.set k 0) ∧ SI (wr.setCell ⟨pg, k, none⟩ (.int .u8 0)) (Jl ++ row) ∧ Own (wr.setCell ⟨pg, k, none⟩ (.int .u8 0)) (w.heap.size + 2) v5 (Jl ++ row) ∧ Below w.heap.size w (wr.setCell ⟨pg, k, none⟩ (.int .u8 0))) := by
                  have hg := grown_setCell (p := ⟨pg, k, none⟩) (grown_refl wr (some pg)) rfl (.int .u8 0)
                  have hl4 := HK.out.lt _ _ HS4.out
                  refine ⟨hset, HK.out.of _ _ _ HS4.out (hg.block _ hl4.1 (by simp; omega)) (hg.block _ hl4.2 (by simp; omega)), ownS_other HO4.out (fun i hi => hg.block i (World.ownsRow.lt HO4.out i hi).2 (by have := HA6.out i hi; simp; omega)), HB4.out.trans (grown_below hg (by have := HB4.out.size; omega) (by omega))⟩
                clear hset HP4 HS4 HO4 HB4
                go_wp2
                go_roundw
                case rel => exact ⟨k + 1, c.set k 0, by omega, by go_num, by simp [hcl], HE.out.1, HE.out.2.1, HE.out.2.2.1, HE.out.2.2.2, by simp; exact hz4⟩
                case measure => simp [intOf]; omega
              · have hkl' : ¬ (k : Int) < (Q.length : Int) := by omega
                clear HP4 hk hkl hcl HA6
                go_wp2
                go_roundw
                case rel => exact ⟨j + 1, by omega, by omega, by go_num, by rw [HJS.out]; exact HO4.out, by rw [HJS.out]; exact HS4.out, HB4.out, by omega⟩
                case measure => simp [intOf]; omega
          · have hq : ((j : Int) == ask) = false := by rw [beq_eq_false_iff_ne]; exact hask
            clear hask
            go_wp2_with (at_builtin; refine wpList_append_bytes rfl _ _ rfl (w.heap.size + 2) u9 Jl rfl HO4.out ra row rc rfl HBr.out HRN.out (by omega) (by omega) ?_; intro v5 w5 ho5 hg5)
            have hl4 := HK.out.lt _ _ HS4.out
            have HS5 : Hid (SI w5 (Jl ++ row)) := HK.out.of _ _ _ HS4.out (hg5.block _ hl4.1 (by intro e; have := World.ownsRow.lt HO4.out _ e.symm; omega)) (hg5.block _ hl4.2 (by intro e; have := World.ownsRow.lt HO4.out _ e.symm; omega))
            have HB5 : Hid (Below w.heap.size w w5) := HB4.out.grown hg5 (by have := HB4.out.size; omega) (fun i hi => by have := World.ownsRow.lt HO4.out i hi; omega)
            have HO5 : Hid (Own w5 (w.heap.size + 2) v5 (Jl ++ row)) := ho5
            have hz5 : pb ≤ w5.heap.size := by have := hg5.size; omega
            clear ho5 hg5 HS4 HO4 HB4 cc HBr hl4
            go_wp2
            go_roundw
            case rel => exact ⟨j + 1, by omega, by omega, by go_num, by rw [HJS.out]; exact HO5.out, by rw [HJS.out]; exact HS5.out, HB5.out, by omega⟩
            case measure => simp [intOf]; omega
    · have hcase : (¬ (j : Int) < (L.length : Int)) ∨ ((j : Int) < (L.length : Int) ∧ ¬ (j : Int) < 50) := by omega
      obtain ⟨x9, c9, hu, hx9, hn9, hc9⟩ := HO.out.bytes'
      subst hu
      have hAl : (J L j).length ≤ 1048576 := by have := HSM.out; have := J_le L j; omega
      obtain ⟨A, hA⟩ : ∃ A, J L j = A := ⟨_, rfl⟩
      rw [hA] at HO HS hx9 hAl ⊢
      obtain ⟨M, hM⟩ : ∃ M, md5L A = M := ⟨_, rfl⟩
      have HAW : Hid (∀ wx, Calls Try.prog 8 #[] wx fun e w' => e = .returned (.bool true) ∧ Below wx.heap.size wx w') := fun wx => awake_any wx
      have HMD : Hid (Calls Try.prog 13 #[.slice x9 A.length c9] wr fun e w' => ∃ v, e = .returned v ∧ Own w' wr.heap.size v (md5L A) ∧ Below wr.heap.size wr w') := refMd5_any x9 A c9 wr hn9 (by omega) hx9
      have HQ : Hid (∀ wx, SI wx A → Calls Try.prog 20 #[.pointer (some ⟨w.heap.size + 1, 0, none⟩)] wx fun e w' => ∃ v, e = .returned v ∧ Own w' wx.heap.size v M ∧ Below wx.heap.size wx w') := fun wx hx => by
        rw [← hM]; exact HK.out.sum A wx hx (by omega)
      have HZ : Hid (∀ wx, SI wx A → Calls Try.prog 21 #[.pointer (some ⟨w.heap.size + 1, 0, none⟩)] wx fun e w' => e = .returned (.int .i64 (A.length : Int)) ∧ wx = w') := fun wx hx => HK.out.size A wx hx
      have HSHA : Hid (∀ wx, Bytes wx x9 A → Calls Try.prog 14 #[.slice x9 A.length c9] wx fun e w' => ∃ v, e = .returned v ∧ Own w' wx.heap.size v (shaL A) ∧ Below wx.heap.size wx w') := fun wx hx => refSha_any x9 A c9 wx hn9 (by omega) hx
      have HX9 : Hid (Bytes wr x9 A) := hx9
      have HM : Hid (md5L A = M) := hM
      obtain ⟨w4, e⟩ : ∃ x, x = wr := ⟨_, rfl⟩
      subst e
      have HOF : Hid (∀ wx wy, SI wx A → Below wx.heap.size wx wy → SI wy A) := fun wx wy h hb => HK.out.of _ _ _ h (hb.block _ (HK.out.lt _ _ h).1) (hb.block _ (HK.out.lt _ _ h).2)
      clear hin hx9 hn9 hM hA hc9 hjL hj50 HRW HSM hAl HO
      rcases hcase with hi1 | ⟨hi1, hi2⟩
      all_goals
        go_wp2_with fail
        refine Calls.mono HMD.out ?_
        rintro e w5 ⟨v5, rfl, ho5, hb5⟩
        have HS5 : Hid (SI w5 A) := HOF.out _ _ HS.out hb5
        have HB5 : Hid (Below w.heap.size w w5) := HNX.out.trans (hb5.mono HNX.out.size)
        have HX5 : Hid (Bytes w5 x9 A) := HX9.out.below hb5 (Nat.le_refl _)
        obtain ⟨y5, d5, rfl, hy5⟩ := ho5.bytes
        rw [HM.out] at hy5 ⊢
        clear ho5 hb5
        have HY5 : Hid (Bytes w5 y5 M) := hy5
        clear hy5 HX5
        go_wp2_with fail
        refine Calls.mono (HQ.out _ HS5.out) ?_
        rintro e w6 ⟨v6, rfl, ho6, hb6⟩
        have HS6 : Hid (SI w6 A) := HOF.out _ _ HS5.out hb6
        have HB6 : Hid (Below w.heap.size w w6) := HB5.out.trans (hb6.mono HB5.out.size)
        have HY6 : Hid (Bytes w6 y5 M) := HY5.out.below hb6 (Nat.le_refl _)
        obtain ⟨y6, d6, rfl, hy6⟩ := ho6.bytes
        clear HS5 HB5 HY5 ho6 hb6
        go_wp2_with fail
        refine (same_any y6 y5 M M d6 d5 _ hy6 HY6.out).mono ?_
        rintro e w' ⟨rfl, rfl⟩
        clear hy6
        have hMM : (M == M) = true := by simp
        rw [hMM]
        clear hMM
        go_wp2_with fail
        refine Calls.mono (HQ.out _ HS6.out) ?_
        rintro e w7 ⟨v7, rfl, ho7, hb7⟩
        have HS7 : Hid (SI w7 A) := HOF.out _ _ HS6.out hb7
        have HB7 : Hid (Below w.heap.size w w7) := HB6.out.trans (hb7.mono HB6.out.size)
        have HY7 : Hid (Bytes w7 y5 M) := HY6.out.below hb7 (Nat.le_refl _)
        obtain ⟨y7, d7, rfl, hy7⟩ := ho7.bytes
        clear HS6 HB6 HY6 ho7 hb7
        go_wp2_with fail
        refine (same_any y7 y5 M M d7 d5 _ hy7 HY7.out).mono ?_
        rintro e w' ⟨rfl, rfl⟩
        clear hy7
        have hMM : (M == M) = true := by simp
        rw [hMM]
        clear hMM
        go_wp2_with fail
        refine (HZ.out _ HS7.out).mono ?_
        rintro e w' ⟨rfl, rfl⟩
        go_wp2_with fail
        refine (HAW.out _).mono ?_
        rintro e w8 ⟨rfl, hb8⟩
        have HB8 : Hid (Below w.heap.size w w8) := HB7.out.trans (hb8.mono HB7.out.size)
        clear hb8
        go_wp2
        go_ret
        exact ⟨rfl, HB8.out⟩

set_option maxHeartbeats 8000000 in
set_option maxRecDepth 20000 in
theorem hashStreams_sha (la : Option Addr) (L : List (List UInt8)) (lc : Nat) (ask : Int) (w : World) (hrw : Rws w la L) (hsum : L.flatten.length ≤ 1048576) (hLl : L.length ≤ 1048576) :
    Calls Try.prog 6 #[.int .i64 2, .slice la L.length lc, .int .i64 ask] w fun e w' => e = .returned (.bool true) ∧ Below w.heap.size w w' := by
  go_enter Try.func6, Try.ntmps6
  go_wp2_with fail
  refine (new_sha _).mono ?_
  rintro e w1 ⟨rfl, hw1⟩
  obtain ⟨hsi, hB1, hz1⟩ := new_kind_sha w w1 hw1
  obtain ⟨SI, K, hsi'⟩ : ∃ SI, Kind (w.heap.size + 1) w.heap.size SI shaL ∧ SI w1 [] := ⟨_, kind_sha _ _, hsi⟩
  have HK : Hid (Kind (w.heap.size + 1) w.heap.size SI shaL) := K
  have HS1 : Hid (SI w1 []) := hsi'
  have HRW : Hid (Rws w la L) := hrw
  have HSM : Hid (L.flatten.length ≤ 1048576) := hsum
  have HO1 : Hid (Own w1 (w.heap.size + 2) (.slice none 0 0) []) := World.ownsRow_nil w1 _ _ _
  have HZ1 : Hid (w1.heap.size = w.heap.size + 2) := hz1
  have HB1 : Hid (Below w.heap.size w w1) := hB1
  clear hw1 hsi K hsi' hrw hB1 hz1 hsum
  go_wp2_with fail
  go_loopw [9, 10] (fun v i wr => ∃ j : Nat, j ≤ L.length ∧ j ≤ 50 ∧ i = .int .i64 j ∧ Own wr (w.heap.size + 2) v (J L j) ∧ SI wr (J L j) ∧ Below w.heap.size w wr ∧ w.heap.size + 2 ≤ wr.heap.size) (fun _ i _ => 50 - (intOf i).toNat)
  case atStart => exact ⟨0, by omega, by omega, rfl, HO1.out, HS1.out, HB1.out, by have := HZ1.out; omega⟩
  case round =>
    clear HO1 HS1 HB1 HZ1
    obtain ⟨j, hjL, hj50, rfl, ho, hs, hnx, hsz⟩ := hrel
    have HO : Hid (Own wr (w.heap.size + 2) u9 (J L j)) := ho
    have HS : Hid (SI wr (J L j)) := hs
    have HNX : Hid (Below w.heap.size w wr) := hnx
    clear ho hs hnx
    by_cases hin : j < L.length ∧ j < 50
    · obtain ⟨hin1, hin2⟩ := hin
      have hi1 : (j : Int) < (L.length : Int) := by omega
      have hi2 : (j : Int) < 50 := by omega
      obtain ⟨lb, lo, hla, hlb, hrows⟩ : ∃ b off, la = some ⟨b, off, none⟩ ∧ b < w.heap.size ∧ ∀ j (h : j < L.length), ∃ a c, w.cell? ⟨b, off + j, none⟩ = some (.slice a L[j].length c) ∧ Bytes w a L[j] ∧ L[j].length ≤ c ∧ (a = none → c = 0) := by
        rcases HRW.out with h | h
        · subst h; simp at hin1
        · exact h
      subst hla
      obtain ⟨ra, rc, hrc, hrb, hrl, hrn⟩ := hrows j hin1
      have hJs := J_succ hin1
      have hJr := J_row hin1
      obtain ⟨row, hrow⟩ : ∃ row, L[j] = row := ⟨_, rfl⟩
      obtain ⟨Jl, hJl⟩ : ∃ x, J L j = x := ⟨_, rfl⟩
      rw [hrow] at hrc hrb hrl hJs hJr
      rw [hJl] at hJs hJr HO HS
      have HJS : Hid (J L (j + 1) = Jl ++ row) := hJs
      have HJR : Hid (Jl.length + row.length ≤ 1048576) := by have := HSM.out; show _ ≤ _; omega
      have HRB : Hid (Bytes w ra row) := hrb
      have HRN : Hid (ra = none → rc = 0) := hrn
      have HRC : Hid (∀ wx, Below w.heap.size w wx → wx.cell? ⟨lb, lo + j, none⟩ = some (.slice ra row.length rc)) := fun wx hx => (hx.cell (p := ⟨lb, lo + j, none⟩) hlb).trans hrc
      have hal : Below w.heap.size w (wr.alloc (.cells #[] 5)) := HNX.out.alloc (by have := HNX.out.size; omega) _
      have HAL : Hid (Below w.heap.size w (wr.alloc (.cells #[] 5))) := hal
      have ca := HRC.out _ HNX.out
      have cb := HRC.out _ hal
      have HO0 : Hid (Own (wr.alloc (.cells #[] 5)) wr.heap.size (.slice (some ⟨wr.heap.size, 0, none⟩) 0 0) []) := World.ownsRow_lit wr #[] 0 (Nat.le_refl _) (by decide) rfl
      have HBk : Hid (Bytes (wr.alloc (.cells #[] 5)) ra row) := hrb.below hal (Nat.le_refl _)
      have hrowb : row.length ≤ 1048576 := by have := HJR.out; omega
      clear hrows hrc hrb hrl hrn hJs hJr hrow hJl hal hin1 hin2
      go_wp2_with (at_builtin; refine wpList_append_bytes rfl _ _ rfl wr.heap.size (.slice (some ⟨wr.heap.size, 0, none⟩) 0 0) [] rfl HO0.out ra row rc rfl HBk.out HRN.out (by rw [List.length_nil]; omega) (by simp) ?_; intro v1 w2 ho1 hg1; rw [List.nil_append] at ho1; obtain ⟨x1, c1, rfl, hx1, _, hc1⟩ := ho1.bytes')
      have hblk : ∀ i, i < wr.heap.size → w2.heap[i]? = wr.heap[i]? := fun i hi => by
        rw [hg1.block i (by simp; omega) (by simp [Value.ownBlock]; omega)]
        exact Below.heap_alloc _ _ _ hi
      have hB2 : Below w.heap.size w w2 := HAL.out.grown hg1 (by simp; omega) (by intro j hj; simp [Value.ownBlock] at hj; omega)
      have hl2 := HK.out.lt _ _ HS.out
      have HS2 : Hid (SI w2 Jl) := HK.out.of _ _ _ HS.out (hblk _ hl2.1) (hblk _ hl2.2)
      have HO2 : Hid (Own w2 (w.heap.size + 2) u9 Jl) := ownS_other HO.out (fun i hi => hblk i (World.ownsRow.lt HO.out i hi).2)
      have HA2 : Hid (∀ i, u9.ownBlock = some i → i < wr.heap.size) := fun i hi => (World.ownsRow.lt HO.out i hi).2
      have hs2 : wr.heap.size ≤ w2.heap.size := by have := hg1.size; simp at this; omega
      have HP2 : Hid (Own w2 wr.heap.size (.slice x1 row.length c1) row) := ho1
      have hab : 0 < row.length → ∀ ad, x1 = some ad → ad.block ≠ w.heap.size + 1 ∧ ad.block ≠ w.heap.size := by
        intro h ad e
        obtain ⟨g, hg, hgb⟩ := ownS_some ho1 h
        rw [hg] at e
        cases e
        show g ≠ _ ∧ g ≠ _
        omega
      have HW : Hid _ := HK.out.write Jl x1 row c1 w2 HS2.out hc1 (by have := HJR.out; omega) hx1 hab
      obtain ⟨pb, hpb⟩ : ∃ pb, wr.heap.size = pb := ⟨_, rfl⟩
      rw [hpb] at HA2 HP2 hsz hs2
      clear HO HS HNX HAL ca cb HO0 HBk ho1 hg1 hx1 hblk hl2 hab hpb hc1
      go_wp2_with fail
      refine Calls.mono HW.out ?_
      rintro e w3 ⟨rfl, hs3, hk3⟩
      have HS3 : Hid (SI w3 (Jl ++ row)) := hs3
      have HO3 : Hid (Own w3 (w.heap.size + 2) u9 Jl) := ownS_kept HO2.out hk3 (by omega) (by omega)
      have HP3 : Hid (Own w3 pb (.slice x1 row.length c1) row) := ownS_kept HP2.out hk3 (by omega) (by omega)
      have HB3 : Hid (Below w.heap.size w w3) := hB2.trans (hk3.below (by have := hB2.size; omega) (by omega) (by omega))
      have hs3' : pb ≤ w3.heap.size := by have := hk3.size; omega
      clear HS2 HO2 HP2 HW hB2 hs3 hk3 hs2
      go_wp2_with fail
      go_loopw [12] (fun i wr => ∃ (k : Nat) (c : List UInt8), k ≤ row.length ∧ i = .int .i64 k ∧ c.length = row.length ∧ Own wr pb (.slice x1 row.length c1) c ∧ SI wr (Jl ++ row) ∧ Own wr (w.heap.size + 2) u9 Jl ∧ Below w.heap.size w wr ∧ pb ≤ wr.heap.size) (fun i _ => row.length - (intOf i).toNat)
      case atStart => exact ⟨0, row, by omega, rfl, rfl, HP3.out, HS3.out, HO3.out, HB3.out, hs3'⟩
      case round =>
        clear HP3 HS3 HO3 HB3 hs3'
        obtain ⟨k, c, hk, rfl, hcl, hp4, hs4, ho4, hnx4, hz4⟩ := hrel
        have HP4 : Hid (Own wr pb (.slice x1 row.length c1) c) := hp4
        have HS4 : Hid (SI wr (Jl ++ row)) := hs4
        have HO4 : Hid (Own wr (w.heap.size + 2) u9 Jl) := ho4
        have HB4 : Hid (Below w.heap.size w wr) := hnx4
        clear hp4 hs4 ho4 hnx4
        by_cases hkl : k < row.length
        · have hkl' : (k : Int) < (row.length : Int) := by omega
          obtain ⟨pg, hpg, hpb⟩ := ownS_some HP4.out (by omega)
          subst hpg
          obtain ⟨hcell, hfr, _⟩ := own_cell HP4.out (k := k) (by omega)
          have hset := own_set HP4.out k 9 (by omega)
          rw [show (((9 : UInt8).toNat : Nat) : Int) = 9 from rfl] at hset
          have HE : Hid (Own (wr.setCell ⟨pg, k, none⟩ (.int .u8 9)) pb (.slice (some ⟨pg, 0, none⟩) row.length c1) (c.set k 9) ∧ SI (wr.setCell ⟨pg, k, none⟩ (.int .u8 9)) (Jl ++ row) ∧ Own (wr.setCell ⟨pg, k, none⟩ (.int .u8 9)) (w.heap.size + 2) u9 Jl ∧ Below w.heap.size w (wr.setCell ⟨pg, k, none⟩ (.int .u8 9))) := by
            have hg := grown_setCell (p := ⟨pg, k, none⟩) (grown_refl wr (some pg)) rfl (.int .u8 9)
            have hl4 := HK.out.lt _ _ HS4.out
            refine ⟨hset, HK.out.of _ _ _ HS4.out (hg.block _ hl4.1 (by simp; omega)) (hg.block _ hl4.2 (by simp; omega)), ownS_other HO4.out (fun i hi => hg.block i (World.ownsRow.lt HO4.out i hi).2 (by have := HA2.out i hi; simp; omega)), HB4.out.trans (grown_below hg (by have := HB4.out.size; omega) (by omega))⟩
          clear hset HP4 HS4 HO4 HB4
          go_wp2
          go_roundw
          case rel => exact ⟨k + 1, c.set k 9, by omega, by go_num, by simp [hcl], HE.out.1, HE.out.2.1, HE.out.2.2.1, HE.out.2.2.2, by simp; exact hz4⟩
          case measure => simp [intOf]; omega
        · have hkl' : ¬ (k : Int) < (row.length : Int) := by omega
          have cc := HRC.out _ HB4.out
          have HBr : Hid (Bytes wr ra row) := HRB.out.below HB4.out (Nat.le_refl _)
          have hjr := HJR.out
          clear HP4 hk hkl hcl HA2
          obtain ⟨w4, e⟩ : ∃ x, x = wr := ⟨_, rfl⟩
          subst e
          by_cases hask : (j : Int) = ask
          · have hq : ((j : Int) == ask) = true := by rw [beq_iff_eq]; exact hask
            clear hask
            go_wp2_with (at_builtin; refine wpList_append_bytes rfl _ _ rfl (w.heap.size + 2) u9 Jl rfl HO4.out ra row rc rfl HBr.out HRN.out (by omega) (by omega) ?_; intro v5 w5 ho5 hg5)
            have hl4 := HK.out.lt _ _ HS4.out
            have HS5 : Hid (SI w5 (Jl ++ row)) := HK.out.of _ _ _ HS4.out (hg5.block _ hl4.1 (by intro e; have := World.ownsRow.lt HO4.out _ e.symm; omega)) (hg5.block _ hl4.2 (by intro e; have := World.ownsRow.lt HO4.out _ e.symm; omega))
            have HB5 : Hid (Below w.heap.size w w5) := HB4.out.grown hg5 (by have := HB4.out.size; omega) (fun i hi => by have := World.ownsRow.lt HO4.out i hi; omega)
            have HO5 : Hid (Own w5 (w.heap.size + 2) v5 (Jl ++ row)) := ho5
            have hz5 : pb ≤ w5.heap.size := by have := hg5.size; omega
            clear ho5 hg5 HS4 HO4 HB4 cc HBr hl4
            have HQ : Hid _ := HK.out.sum (Jl ++ row) w5 HS5.out (by rw [List.length_append]; omega)
            go_wp2_with fail
            refine Calls.mono HQ.out ?_
            rintro e w6 ⟨v6, rfl, ho6, hb6⟩
            obtain ⟨Q, hQ⟩ : ∃ Q, shaL (Jl ++ row) = Q := ⟨_, rfl⟩
            have hQl : Q.length ≤ 64 := by rw [← hQ]; exact shaL_le _
            rw [hQ] at ho6
            obtain ⟨x6, c6, rfl, _, _, _⟩ := ho6.bytes'
            have hl5 := HK.out.lt _ _ HS5.out
            have HS6 : Hid (SI w6 (Jl ++ row)) := HK.out.of _ _ _ HS5.out (hb6.block _ hl5.1) (hb6.block _ hl5.2)
            have HO6 : Hid (Own w6 (w.heap.size + 2) v5 (Jl ++ row)) := ownS_below HO5.out hb6
            have HA6 : Hid (∀ i, v5.ownBlock = some i → i < w5.heap.size) := fun i hi => (World.ownsRow.lt HO5.out i hi).2
            have HB6 : Hid (Below w.heap.size w w6) := HB5.out.trans (hb6.mono HB5.out.size)
            have HP6 : Hid (Own w6 w5.heap.size (.slice x6 Q.length c6) Q) := ho6
            have hz6 : w5.heap.size ≤ w6.heap.size := hb6.size
            obtain ⟨qb, hqb⟩ : ∃ qb, w5.heap.size = qb := ⟨_, rfl⟩
            rw [hqb] at HA6 HP6 hz6 hz5
            clear HQ hQ ho6 hb6 hl5 HS5 HO5 HB5 hqb
            go_wp2_with fail
            go_loopw [14] (fun i wr => ∃ (k : Nat) (c : List UInt8), k ≤ Q.length ∧ i = .int .i64 k ∧ c.length = Q.length ∧ Own wr qb (.slice x6 Q.length c6) c ∧ SI wr (Jl ++ row) ∧ Own wr (w.heap.size + 2) v5 (Jl ++ row) ∧ Below w.heap.size w wr ∧ qb ≤ wr.heap.size) (fun i _ => Q.length - (intOf i).toNat)
            case atStart => exact ⟨0, Q, by omega, rfl, rfl, HP6.out, HS6.out, HO6.out, HB6.out, hz6⟩
            case round =>
              clear HP6 HS6 HO6 HB6 hz6
              obtain ⟨k, c, hk, rfl, hcl, hp4, hs4, ho4, hnx4, hz4⟩ := hrel
              have HP4 : Hid (Own wr qb (.slice x6 Q.length c6) c) := hp4
              have HS4 : Hid (SI wr (Jl ++ row)) := hs4
              have HO4 : Hid (Own wr (w.heap.size + 2) v5 (Jl ++ row)) := ho4
              have HB4 : Hid (Below w.heap.size w wr) := hnx4
              clear hp4 hs4 ho4 hnx4
              by_cases hkl : k < Q.length
              · have hkl' : (k : Int) < (Q.length : Int) := by omega
                obtain ⟨pg, hpg, hpb⟩ := ownS_some HP4.out (by omega)
                subst hpg
                obtain ⟨hcell, hfr, _⟩ := own_cell HP4.out (k := k) (by omega)
                have hset := own_set HP4.out k 0 (by omega)
                rw [show (((0 : UInt8).toNat : Nat) : Int) = 0 from rfl] at hset
                have HE : Hid (Own (wr.setCell ⟨pg, k, none⟩ (.int .u8 0)) qb (.slice (some ⟨pg, 0, none⟩) Q.length c6) (c.set k 0) ∧ SI (wr.setCell ⟨pg, k, none⟩ (.int .u8 0)) (Jl ++ row) ∧ Own (wr.setCell ⟨pg, k, none⟩ (.int .u8 0)) (w.heap.size + 2) v5 (Jl ++ row) ∧ Below w.heap.size w (wr.setCell ⟨pg, k, none⟩ (.int .u8 0))) := by
                  have hg := grown_setCell (p := ⟨pg, k, none⟩) (grown_refl wr (some pg)) rfl (.int .u8 0)
                  have hl4 := HK.out.lt _ _ HS4.out
                  refine ⟨hset, HK.out.of _ _ _ HS4.out (hg.block _ hl4.1 (by simp; omega)) (hg.block _ hl4.2 (by simp; omega)), ownS_other HO4.out (fun i hi => hg.block i (World.ownsRow.lt HO4.out i hi).2 (by have := HA6.out i hi; simp; omega)), HB4.out.trans (grown_below hg (by have := HB4.out.size; omega) (by omega))⟩
                clear hset HP4 HS4 HO4 HB4
                go_wp2
                go_roundw
                case rel => exact ⟨k + 1, c.set k 0, by omega, by go_num, by simp [hcl], HE.out.1, HE.out.2.1, HE.out.2.2.1, HE.out.2.2.2, by simp; exact hz4⟩
                case measure => simp [intOf]; omega
              · have hkl' : ¬ (k : Int) < (Q.length : Int) := by omega
                clear HP4 hk hkl hcl HA6
                go_wp2
                go_roundw
                case rel => exact ⟨j + 1, by omega, by omega, by go_num, by rw [HJS.out]; exact HO4.out, by rw [HJS.out]; exact HS4.out, HB4.out, by omega⟩
                case measure => simp [intOf]; omega
          · have hq : ((j : Int) == ask) = false := by rw [beq_eq_false_iff_ne]; exact hask
            clear hask
            go_wp2_with (at_builtin; refine wpList_append_bytes rfl _ _ rfl (w.heap.size + 2) u9 Jl rfl HO4.out ra row rc rfl HBr.out HRN.out (by omega) (by omega) ?_; intro v5 w5 ho5 hg5)
            have hl4 := HK.out.lt _ _ HS4.out
            have HS5 : Hid (SI w5 (Jl ++ row)) := HK.out.of _ _ _ HS4.out (hg5.block _ hl4.1 (by intro e; have := World.ownsRow.lt HO4.out _ e.symm; omega)) (hg5.block _ hl4.2 (by intro e; have := World.ownsRow.lt HO4.out _ e.symm; omega))
            have HB5 : Hid (Below w.heap.size w w5) := HB4.out.grown hg5 (by have := HB4.out.size; omega) (fun i hi => by have := World.ownsRow.lt HO4.out i hi; omega)
            have HO5 : Hid (Own w5 (w.heap.size + 2) v5 (Jl ++ row)) := ho5
            have hz5 : pb ≤ w5.heap.size := by have := hg5.size; omega
            clear ho5 hg5 HS4 HO4 HB4 cc HBr hl4
            go_wp2
            go_roundw
            case rel => exact ⟨j + 1, by omega, by omega, by go_num, by rw [HJS.out]; exact HO5.out, by rw [HJS.out]; exact HS5.out, HB5.out, by omega⟩
            case measure => simp [intOf]; omega
    · have hcase : (¬ (j : Int) < (L.length : Int)) ∨ ((j : Int) < (L.length : Int) ∧ ¬ (j : Int) < 50) := by omega
      obtain ⟨x9, c9, hu, hx9, hn9, hc9⟩ := HO.out.bytes'
      subst hu
      have hAl : (J L j).length ≤ 1048576 := by have := HSM.out; have := J_le L j; omega
      obtain ⟨A, hA⟩ : ∃ A, J L j = A := ⟨_, rfl⟩
      rw [hA] at HO HS hx9 hAl ⊢
      obtain ⟨M, hM⟩ : ∃ M, shaL A = M := ⟨_, rfl⟩
      have HAW : Hid (∀ wx, Calls Try.prog 8 #[] wx fun e w' => e = .returned (.bool true) ∧ Below wx.heap.size wx w') := fun wx => awake_any wx
      have HMD : Hid (Calls Try.prog 13 #[.slice x9 A.length c9] wr fun e w' => ∃ v, e = .returned v ∧ Own w' wr.heap.size v (md5L A) ∧ Below wr.heap.size wr w') := refMd5_any x9 A c9 wr hn9 (by omega) hx9
      have HQ : Hid (∀ wx, SI wx A → Calls Try.prog 20 #[.pointer (some ⟨w.heap.size + 1, 0, none⟩)] wx fun e w' => ∃ v, e = .returned v ∧ Own w' wx.heap.size v M ∧ Below wx.heap.size wx w') := fun wx hx => by
        rw [← hM]; exact HK.out.sum A wx hx (by omega)
      have HZ : Hid (∀ wx, SI wx A → Calls Try.prog 21 #[.pointer (some ⟨w.heap.size + 1, 0, none⟩)] wx fun e w' => e = .returned (.int .i64 (A.length : Int)) ∧ wx = w') := fun wx hx => HK.out.size A wx hx
      have HSHA : Hid (∀ wx, Bytes wx x9 A → Calls Try.prog 14 #[.slice x9 A.length c9] wx fun e w' => ∃ v, e = .returned v ∧ Own w' wx.heap.size v (shaL A) ∧ Below wx.heap.size wx w') := fun wx hx => refSha_any x9 A c9 wx hn9 (by omega) hx
      have HX9 : Hid (Bytes wr x9 A) := hx9
      have HM : Hid (shaL A = M) := hM
      obtain ⟨w4, e⟩ : ∃ x, x = wr := ⟨_, rfl⟩
      subst e
      have HOF : Hid (∀ wx wy, SI wx A → Below wx.heap.size wx wy → SI wy A) := fun wx wy h hb => HK.out.of _ _ _ h (hb.block _ (HK.out.lt _ _ h).1) (hb.block _ (HK.out.lt _ _ h).2)
      clear hin hx9 hn9 hM hA hc9 hjL hj50 HRW HSM hAl HO
      rcases hcase with hi1 | ⟨hi1, hi2⟩
      all_goals
        go_wp2_with fail
        refine Calls.mono HMD.out ?_
        rintro e w5 ⟨v5, rfl, ho5, hb5⟩
        have HS5 : Hid (SI w5 A) := HOF.out _ _ HS.out hb5
        have HB5 : Hid (Below w.heap.size w w5) := HNX.out.trans (hb5.mono HNX.out.size)
        have HX5 : Hid (Bytes w5 x9 A) := HX9.out.below hb5 (Nat.le_refl _)
        obtain ⟨y5, d5, rfl, hy5⟩ := ho5.bytes
        clear ho5 hb5 hy5
        go_wp2_with fail
        refine Calls.mono (HSHA.out _ HX5.out) ?_
        rintro e w6a ⟨v6a, rfl, ho5, hb5⟩
        have HS5' : Hid (SI w6a A) := HOF.out _ _ HS5.out hb5
        have HB5' : Hid (Below w.heap.size w w6a) := HB5.out.trans (hb5.mono HB5.out.size)
        clear HS5 HB5
        have HS5 : Hid (SI w6a A) := HS5'.out
        have HB5 : Hid (Below w.heap.size w w6a) := HB5'.out
        clear HS5' HB5'
        obtain ⟨y5b, d5b, rfl, hy5b⟩ := ho5.bytes
        rw [HM.out] at hy5b ⊢
        clear ho5 hb5
        have HY5 : Hid (Bytes w6a y5b M) := hy5b
        clear hy5b HX5
        go_wp2_with fail
        refine Calls.mono (HQ.out _ HS5.out) ?_
        rintro e w6 ⟨v6, rfl, ho6, hb6⟩
        have HS6 : Hid (SI w6 A) := HOF.out _ _ HS5.out hb6
        have HB6 : Hid (Below w.heap.size w w6) := HB5.out.trans (hb6.mono HB5.out.size)
        have HY6 : Hid (Bytes w6 y5b M) := HY5.out.below hb6 (Nat.le_refl _)
        obtain ⟨y6, d6, rfl, hy6⟩ := ho6.bytes
        clear HS5 HB5 HY5 ho6 hb6
        go_wp2_with fail
        refine (same_any y6 y5b M M d6 d5b _ hy6 HY6.out).mono ?_
        rintro e w' ⟨rfl, rfl⟩
        clear hy6
        have hMM : (M == M) = true := by simp
        rw [hMM]
        clear hMM
        go_wp2_with fail
        refine Calls.mono (HQ.out _ HS6.out) ?_
        rintro e w7 ⟨v7, rfl, ho7, hb7⟩
        have HS7 : Hid (SI w7 A) := HOF.out _ _ HS6.out hb7
        have HB7 : Hid (Below w.heap.size w w7) := HB6.out.trans (hb7.mono HB6.out.size)
        have HY7 : Hid (Bytes w7 y5b M) := HY6.out.below hb7 (Nat.le_refl _)
        obtain ⟨y7, d7, rfl, hy7⟩ := ho7.bytes
        clear HS6 HB6 HY6 ho7 hb7
        go_wp2_with fail
        refine (same_any y7 y5b M M d7 d5b _ hy7 HY7.out).mono ?_
        rintro e w' ⟨rfl, rfl⟩
        clear hy7
        have hMM : (M == M) = true := by simp
        rw [hMM]
        clear hMM
        go_wp2_with fail
        refine (HZ.out _ HS7.out).mono ?_
        rintro e w' ⟨rfl, rfl⟩
        go_wp2_with fail
        refine (HAW.out _).mono ?_
        rintro e w8 ⟨rfl, hb8⟩
        have HB8 : Hid (Below w.heap.size w w8) := HB7.out.trans (hb8.mono HB7.out.size)
        clear hb8
        go_wp2
        go_ret
        exact ⟨rfl, HB8.out⟩

theorem hashStreams_walk (kind : Int) (la : Option Addr) (L : List (List UInt8)) (lc : Nat) (ask : Int) (w : World) (hrw : Rws w la L) (hsum : L.flatten.length ≤ 1048576) (hLl : L.length ≤ 1048576) :
    Calls Try.prog 6 #[.int .i64 kind, .slice la L.length lc, .int .i64 ask] w fun e w' => e = .returned (.bool true) ∧ Below w.heap.size w w' := by
  by_cases h1 : kind = 1
  · subst h1; exact hashStreams_md5 la L lc ask w hrw hsum hLl
  by_cases h2 : kind = 2
  · subst h2; exact hashStreams_sha la L lc ask w hrw hsum hLl
  have q1 : (kind == 1) = false := by rw [beq_eq_false_iff_ne]; exact h1
  have q2 : (kind == 2) = false := by rw [beq_eq_false_iff_ne]; exact h2
  have C1 : Hid (∀ wx, Calls Try.prog 18 #[.int .i64 kind] wx fun e w' => e = .returned (.tuple #[.pointer none, .int .i64 1]) ∧ wx = w') := fun wx => new_else kind wx h1 h2
  have r1 : (kind != 1) = true := by simp [h1]
  have r2 : (kind != 2) = true := by simp [h2]
  go_enter Try.func6, Try.ntmps6
  go_wp2_with fail
  refine (C1.out _).mono ?_
  rintro e w1 ⟨rfl, rfl⟩
  go_wp2_with fail
  refine (awake_any _).mono ?_
  rintro e w2 ⟨rfl, hb⟩
  go_wp2
  go_ret
  exact ⟨rfl, hb⟩
end Go.Proofs.Ytdgoepnopenpkaa
