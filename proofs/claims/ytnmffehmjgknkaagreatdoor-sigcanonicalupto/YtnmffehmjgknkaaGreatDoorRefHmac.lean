/-
  The document's HMAC by its contract.
-/
import Derived.Test.YtnmffehmjgknkaaGreatDoorRefSha
namespace Go.Proofs.YtnmffehmjgknkaaGreatDoor
open Go.RowKit

theorem own_kept {w w' : World} {base : Nat} {v : Value} {l : List UInt8} {row : Option Nat} (h : Own w base v l) (hg : w.grownBy w' row) (hne : v.ownBlock = none ∨ v.ownBlock ≠ row) : Own w' base v l := World.ownsRow.kept h hg hne
theorem own_below {w w' : World} {base : Nat} {v : Value} {l : List UInt8} (h : Own w base v l) (hb : Below w.heap.size w w') : Own w' base v l :=
  own_kept h (below_grown hb none) (by cases h : v.ownBlock with | none => exact .inl rfl | some g => exact .inr (by simp))
theorem own_alloc {w : World} {base : Nat} {v : Value} {l : List UInt8} (h : Own w base v l) (o : Obj) : Own (w.alloc o) base v l := World.ownsRow.alloc h o
/-- Two rows that begin unlike lie apart. -/
theorem rows_apart {w : World} {base : Nat} {v v' : Value} {l l' : List UInt8} (h : Own w base v l) (h' : Own w base v' l') (hl : 0 < l.length) (hl' : 0 < l'.length) (hd : l.getD 0 0 ≠ l'.getD 0 0) : v.ownBlock ≠ v'.ownBlock := by
  intro e
  obtain ⟨a, c, rfl, hb⟩ := h.bytes
  obtain ⟨a', c', rfl, hb'⟩ := h'.bytes
  obtain ⟨b, off, rfl, _, hc⟩ := hb.at hl
  obtain ⟨b', off', rfl, _, hc'⟩ := hb'.at hl'
  have e0 : off = 0 := by
    rcases h.2 with ⟨hv, _⟩ | ⟨g, cap, cur, hv, _⟩
    · simp at hv
    · simp only [Value.slice.injEq, Option.some.injEq, Addr.mk.injEq, and_true] at hv
      exact hv.1.2
  have e0' : off' = 0 := by
    rcases h'.2 with ⟨hv, _⟩ | ⟨g, cap, cur, hv, _⟩
    · simp at hv
    · simp only [Value.slice.injEq, Option.some.injEq, Addr.mk.injEq, and_true] at hv
      exact hv.1.2
  simp only [Value.ownBlock, Option.some.injEq] at e
  subst e e0 e0'
  have q := hc 0 hl
  have q' := hc' 0 hl'
  rw [q] at q'
  have : l[0].toNat = l'[0].toNat := by
    have h : (l[0].toNat : Int) = (l'[0].toNat : Int) := by simpa using q'
    omega
  apply hd
  have g1 : l.getD 0 0 = l[0] := by simp [List.getD, hl]
  have g2 : l'.getD 0 0 = l'[0] := by simp [List.getD, hl']
  rw [g1, g2]
  exact UInt8.toNat_inj.1 this
theorem xor_t : ∀ x : Fin 256, (UInt8.ofNat x.val ^^^ 54 == UInt8.ofNat x.val ^^^ 92) = false := by decide +kernel
theorem xor_ne (x : UInt8) : x ^^^ 54 ≠ x ^^^ 92 := by
  intro e
  have h := xor_t ⟨x.toNat, x.toNat_lt⟩
  simp only [UInt8.ofNat_toNat] at h
  rw [e] at h
  simp at h
theorem kx_first (K : List UInt8) (k : Nat) (hK : 0 < K.length) (hk : 0 < k) : ((kx K 54).take k).getD 0 0 ≠ ((kx K 92).take k).getD 0 0 := by
  cases K with
  | nil => simp at hK
  | cons x r =>
    cases k with
    | zero => omega
    | succ k =>
      simp only [kx, List.map_cons, List.take_succ_cons, List.getD_cons_zero]
      exact xor_ne x

theorem kb_in {key K0 : List UInt8} {k : Nat} (hk : kbL key = K0 ++ noughts (64 - K0.length)) (h : k < K0.length) : (kbL key).getD k 0 = K0[k] := by
  rw [hk, List.getD_eq_getElem?_getD, List.getElem?_append_left h, List.getElem?_eq_getElem h]
  rfl
theorem kb_out {key K0 : List UInt8} {k : Nat} (hk : kbL key = K0 ++ noughts (64 - K0.length)) (h : ¬ k < K0.length) : (kbL key).getD k 0 = 0 := by
  rw [hk, List.getD_eq_getElem?_getD, List.getElem?_append_right (by omega), noughts, List.getElem?_replicate]
  split <;> rfl
theorem take_len (K : List UInt8) (m : UInt8) (k : Nat) (h : k ≤ K.length) : ((kx K m).take k).length = k := by rw [List.length_take, kx_length]; omega
theorem apart_of {w : World} {base k : Nat} {u v : Value} {K l : List UInt8} (hK : 0 < K.length) (hu : Own w base u l) (hl : 0 < l.length) (hl0 : l.getD 0 0 = ((kx K 54).take (k + 1)).getD 0 0) (hv : Own w base v ((kx K 92).take k)) (hz : k = 0 → v = .slice none 0 0) (hk : k ≤ K.length) : v.ownBlock = none ∨ v.ownBlock ≠ u.ownBlock := by
  by_cases h0 : k = 0
  · left
    rw [hz h0]
    rfl
  · right
    refine rows_apart hv hu (by rw [take_len _ _ _ hk]; omega) hl ?_
    rw [hl0]
    have h1 : ((kx K 54).take (k + 1)).getD 0 0 = ((kx K 54).take k).getD 0 0 := by
      cases K with
      | nil => simp at hK
      | cons x r =>
        cases k with
        | zero => exact absurd rfl h0
        | succ k => rfl
    rw [h1]
    exact fun e => kx_first K k hK (by omega) e.symm
theorem first_more (K : List UInt8) (m : UInt8) (k : Nat) (hK : 0 < K.length) (hk : 0 < k) : ((kx K m).take k).getD 0 0 = ((kx K m).take (k + 1)).getD 0 0 := by
  cases K with
  | nil => simp at hK
  | cons x r =>
    cases k with
    | zero => omega
    | succ k => rfl

theorem own_row {w : World} {base k : Nat} {v : Value} {l : List UInt8} (h : Own w base v l) (hl : l.length = k) : w.ownsRow base 5 1 v k (bcs l) := by
  subst hl
  exact h
theorem exitF (key b : List UInt8) {w : World} {base k : Nat} {u v : Value} (hu : Own w base u ((kx (kbL key) 54).take k)) (hv : Own w base v ((kx (kbL key) 92).take k)) (hk : k = 64) :
    ∃ P R : List UInt8, Own w base u P ∧ Own w base v R ∧ v.ownBlock ≠ u.ownBlock ∧ P.length = 64 ∧ R.length = 64 ∧ hmacL key b = shaL (R ++ shaL (P ++ b)) := by
  have hL := kbL_length key
  have e1 : (kx (kbL key) 54).take k = kx (kbL key) 54 := List.take_of_length_le (by rw [kx_length, hL]; omega)
  have e2 : (kx (kbL key) 92).take k = kx (kbL key) 92 := List.take_of_length_le (by rw [kx_length, hL]; omega)
  rw [e1] at hu
  rw [e2] at hv
  refine ⟨kx (kbL key) 54, kx (kbL key) 92, hu, hv, ?_, by rw [kx_length, hL], by rw [kx_length, hL], rfl⟩
  refine rows_apart hv hu (by rw [kx_length, hL]; omega) (by rw [kx_length, hL]; omega) ?_
  have h := kx_first (kbL key) k (by rw [hL]; omega) (by omega)
  rw [e1, e2] at h
  exact fun e => h e.symm

set_option maxRecDepth 20000 in
set_option maxHeartbeats 12000000 in
theorem refHmac_any (ka : Option Addr) (key : List UInt8) (kcap : Nat) (a : Option Addr) (b : List UInt8) (cap : Nat) (w : World) (hkn : ka = none → kcap = 0) (hkl : key.length ≤ 140737488351232) (hkb : Bytes w ka key) (hn : a = none → cap = 0) (hl : b.length ≤ 140737488351232) (hb : Bytes w a b) :
    Calls Tryz.prog 109 #[.slice ka key.length kcap, .slice a b.length cap] w fun e w' => ∃ v, e = .returned v ∧ Own w' w.heap.size v (hmacL key b) ∧ Below w.heap.size w w' := by
  obtain ⟨i0, hi, hz0, hz1, hz2⟩ := info_parts info5
  by_cases hlong : 64 < key.length
  · have hlong' : (64 : Int) < (key.length : Int) := by omega
    have HKB : Hid (kbL key = shaL key ++ noughts (64 - (shaL key).length)) := by show kbL key = _; rw [kbL, if_pos hlong]
    have HC : Hid _ := refSha_any ka key kcap w hkn (by omega) hkb
    have HBb0 : Hid (Bytes w a b) := hb
    clear hb hkb hkn
    go_enter Tryz.func109, Tryz.ntmps109
    go_wp2_with fail
    refine Calls.mono HC.out ?_
    rintro e w1 ⟨vk, rfl, hok, hB1⟩
    obtain ⟨xk, ck, rfl, hxk, _, _⟩ := hok.bytes'
    have HXK : Hid (Bytes w1 xk (shaL key)) := hxk
    have HB1 : Hid (Bytes w1 a b) := HBb0.out.below hB1 (Nat.le_refl _)
    clear HC hok hxk HBb0 hlong hlong'
    go_wp2
    go_loopw [6, 7, 8, 9] (fun u v i _ wr => ∃ k : Nat, k ≤ 64 ∧ i = .int .i64 k ∧ Own wr w1.heap.size u ((kx (kbL key) 54).take k) ∧ Own wr w1.heap.size v ((kx (kbL key) 92).take k) ∧ (k = 0 → u = .slice none 0 0) ∧ (k = 0 → v = .slice none 0 0) ∧ Below w1.heap.size w1 wr) (fun _ _ i _ _ => 64 - (intOf i).toNat)
    case atStart => exact ⟨0, by omega, rfl, World.ownsRow_nil _ _ _ _, World.ownsRow_nil _ _ _ _, fun _ => rfl, fun _ => rfl, Below.refl _ _⟩
    case round =>
      obtain ⟨k, hk, rfl, hu, hv, hu0, hv0, hnx⟩ := hrel
      have HU : Hid (Own wr w1.heap.size u6 ((kx (kbL key) 54).take k)) := hu
      have HV : Hid (Own wr w1.heap.size u7 ((kx (kbL key) 92).take k)) := hv
      have HU0 : Hid (k = 0 → u6 = .slice none 0 0) := hu0
      have HV0 : Hid (k = 0 → u7 = .slice none 0 0) := hv0
      clear hu hv hu0 hv0
      have hsz := hnx.size
      have HKL : Hid ((kbL key).length = 64) := kbL_length key
      by_cases hlt : k < 64
      · have hlt' : (k : Int) < 64 := by omega
        have HOU : Hid _ := kx_snoc (kbL key) 54 (k := k) (by rw [HKL.out]; exact hlt)
        have HOV : Hid _ := kx_snoc (kbL key) 92 (k := k) (by rw [HKL.out]; exact hlt)
        have HLU : Hid (((kx (kbL key) 54).take k).length = k) := take_len _ _ _ (by rw [HKL.out]; omega)
        have HLV : Hid (((kx (kbL key) 92).take k).length = k) := take_len _ _ _ (by rw [HKL.out]; omega)
        have hA1 : u7.ownBlock = none ∨ u7.ownBlock ≠ u6.ownBlock := by
          by_cases h0 : k = 0
          · left; rw [HV0.out h0]; rfl
          · exact apart_of (k := k) (by rw [HKL.out]; decide) HU.out (by rw [HLU.out]; omega) (first_more _ _ _ (by rw [HKL.out]; decide) (by omega)) HV.out HV0.out (by rw [HKL.out]; omega)
        have HA1 : Hid (u7.ownBlock = none ∨ u7.ownBlock ≠ u6.ownBlock) := hA1
        clear hA1
        have HUr : Hid (wr.ownsRow w1.heap.size 5 1 u6 k (bcs ((kx (kbL key) 54).take k))) := by
          have h : wr.ownsRow w1.heap.size 5 1 u6 ((kx (kbL key) 54).take k).length (bcs ((kx (kbL key) 54).take k)) := HU.out
          rw [HLU.out] at h
          exact h
        obtain ⟨x, hx⟩ : ∃ x, x = (kbL key).getD k 0 := ⟨_, rfl⟩
        rw [← hx] at HOU HOV
        have hxm : bits .xor .u8 (x.toNat : Int) 54 = ((x ^^^ 54).toNat : Int) := xor_u8 x 54
        have hxn : bits .xor .u8 (x.toNat : Int) 92 = ((x ^^^ 92).toNat : Int) := xor_u8 x 92
        generalize x ^^^ 54 = y at *
        generalize x ^^^ 92 = z at *
        by_cases hin : k < (shaL key).length
        · obtain ⟨bk, off, rfl, hbl, hcs⟩ := (HXK.out).at hin
          have hcell : wr.cell? ⟨bk, off + k, none⟩ = some (.int .u8 (x.toNat : Int)) := by
            rw [hnx.cell (p := ⟨bk, off + k, none⟩) hbl, hcs k hin, hx, kb_in HKB.out hin]
          have hin' : (k : Int) < ((shaL key).length : Int) := by omega
          clear hx hcs
          go_wp2_with (at_builtin; first
            | (refine wpList_append_own _ rfl (.tmp 28) (.tmp 31) 23 rfl w1.heap.size 5 i0 (.int .u8 0) 1 1 Tryz.underlying23 hi hz0 hz1 hz2 rfl (by decide) _ _ _ rfl (World.ownsRow.alloc HUr.out _) ⟨wr.heap.size, 0, none⟩ 1 1 [.int .u8 (y.toNat : Int)] rfl rfl (cell_one_new _ _ _) (one_one _ rfl) (by unfold maxLen; omega) (by omega) (by simp; omega) ?_; intro v4 w4 hown4 hgrow4 _; have HB4 : Hid (Below w1.heap.size w1 w4) := (hnx.alloc hsz _).grown hgrow4 (by simp; omega) (fun j hj => (World.ownsRow.lt HUr.out j hj).1); have HV4 : Hid (Own w4 w1.heap.size _ ((kx (kbL key) 92).take k)) := own_kept (own_alloc HV.out _) hgrow4 HA1.out; have HVr : Hid (w4.ownsRow w1.heap.size 5 1 _ k (bcs ((kx (kbL key) 92).take k))) := own_row HV4.out HLV.out; have hs4 := HB4.out.size)
            | (refine wpList_append_own _ rfl (.tmp 33) (.tmp 36) 23 rfl w1.heap.size 5 i0 (.int .u8 0) 1 1 Tryz.underlying23 hi hz0 hz1 hz2 rfl (by decide) _ _ _ rfl (World.ownsRow.alloc HVr.out _) ⟨w4.heap.size, 0, none⟩ 1 1 [.int .u8 (z.toNat : Int)] rfl rfl (cell_one_new _ _ _) (one_one _ rfl) (by unfold maxLen; omega) (by omega) (by simp; omega) ?_; intro v5 w5 hown5 hgrow5 _))
          have HU4 : Hid (Own w4 w1.heap.size v4 ((kx (kbL key) 54).take (k + 1))) := by
            show w4.ownsRow _ _ _ _ _ _
            rw [take_len _ _ _ (by rw [HKL.out]; omega), HOU.out, bcs_append]
            exact hown4
          have HA2 : Hid (_ ∨ _) := apart_of (k := k) (by rw [HKL.out]; decide) HU4.out (by rw [take_len _ _ _ (by rw [HKL.out]; omega)]; omega) rfl HV4.out HV0.out (by rw [HKL.out]; omega)
          have HB5 : Hid (Below w1.heap.size w1 w5) := (HB4.out.alloc hs4 _).grown hgrow5 (by simp; omega) (fun j hj => (World.ownsRow.lt HVr.out j hj).1)
          have HV5 : Hid (Own w5 w1.heap.size v5 ((kx (kbL key) 92).take (k + 1))) := by
            show w5.ownsRow _ _ _ _ _ _
            rw [take_len _ _ _ (by rw [HKL.out]; omega), HOV.out, bcs_append]
            exact hown5
          have HU5 : Hid (Own w5 w1.heap.size v4 ((kx (kbL key) 54).take (k + 1))) := own_kept (row := u7.ownBlock) (own_alloc HU4.out _) hgrow5 (by
            rcases HA2.out with h | h
            · rw [h]
              cases v4.ownBlock with
              | none => exact .inl rfl
              | some g => exact .inr (by simp)
            · exact .inr (fun e => h e.symm))
          clear hown5 hgrow5 HVr HA2 hs4
          go_wp2
          go_roundw
          case rel => exact ⟨k + 1, by omega, by go_num, HU5.out, HV5.out, fun h => by omega, fun h => by omega, HB5.out⟩
          case measure => simp [intOf]; omega
        · have hx0 : x = 0 := by rw [hx, kb_out HKB.out hin]
          subst hx0
          have hxm' : bits .xor .u8 (0 : Int) 54 = (y.toNat : Int) := hxm
          have hxn' : bits .xor .u8 (0 : Int) 92 = (z.toNat : Int) := hxn
          clear hxm hxn
          have hin' : ¬ (k : Int) < ((shaL key).length : Int) := by omega
          clear hx
          go_wp2_with (at_builtin; first
            | (refine wpList_append_own _ rfl (.tmp 28) (.tmp 31) 23 rfl w1.heap.size 5 i0 (.int .u8 0) 1 1 Tryz.underlying23 hi hz0 hz1 hz2 rfl (by decide) _ _ _ rfl (World.ownsRow.alloc HUr.out _) ⟨wr.heap.size, 0, none⟩ 1 1 [.int .u8 (y.toNat : Int)] rfl rfl (cell_one_new _ _ _) (one_one _ rfl) (by unfold maxLen; omega) (by omega) (by simp; omega) ?_; intro v4 w4 hown4 hgrow4 _; have HB4 : Hid (Below w1.heap.size w1 w4) := (hnx.alloc hsz _).grown hgrow4 (by simp; omega) (fun j hj => (World.ownsRow.lt HUr.out j hj).1); have HV4 : Hid (Own w4 w1.heap.size _ ((kx (kbL key) 92).take k)) := own_kept (own_alloc HV.out _) hgrow4 HA1.out; have HVr : Hid (w4.ownsRow w1.heap.size 5 1 _ k (bcs ((kx (kbL key) 92).take k))) := own_row HV4.out HLV.out; have hs4 := HB4.out.size)
            | (refine wpList_append_own _ rfl (.tmp 33) (.tmp 36) 23 rfl w1.heap.size 5 i0 (.int .u8 0) 1 1 Tryz.underlying23 hi hz0 hz1 hz2 rfl (by decide) _ _ _ rfl (World.ownsRow.alloc HVr.out _) ⟨w4.heap.size, 0, none⟩ 1 1 [.int .u8 (z.toNat : Int)] rfl rfl (cell_one_new _ _ _) (one_one _ rfl) (by unfold maxLen; omega) (by omega) (by simp; omega) ?_; intro v5 w5 hown5 hgrow5 _))
          have HU4 : Hid (Own w4 w1.heap.size v4 ((kx (kbL key) 54).take (k + 1))) := by
            show w4.ownsRow _ _ _ _ _ _
            rw [take_len _ _ _ (by rw [HKL.out]; omega), HOU.out, bcs_append]
            exact hown4
          have HA2 : Hid (_ ∨ _) := apart_of (k := k) (by rw [HKL.out]; decide) HU4.out (by rw [take_len _ _ _ (by rw [HKL.out]; omega)]; omega) rfl HV4.out HV0.out (by rw [HKL.out]; omega)
          have HB5 : Hid (Below w1.heap.size w1 w5) := (HB4.out.alloc hs4 _).grown hgrow5 (by simp; omega) (fun j hj => (World.ownsRow.lt HVr.out j hj).1)
          have HV5 : Hid (Own w5 w1.heap.size v5 ((kx (kbL key) 92).take (k + 1))) := by
            show w5.ownsRow _ _ _ _ _ _
            rw [take_len _ _ _ (by rw [HKL.out]; omega), HOV.out, bcs_append]
            exact hown5
          have HU5 : Hid (Own w5 w1.heap.size v4 ((kx (kbL key) 54).take (k + 1))) := own_kept (row := u7.ownBlock) (own_alloc HU4.out _) hgrow5 (by
            rcases HA2.out with h | h
            · rw [h]
              cases v4.ownBlock with
              | none => exact .inl rfl
              | some g => exact .inr (by simp)
            · exact .inr (fun e => h e.symm))
          clear hown5 hgrow5 HVr HA2 hs4
          go_wp2
          go_roundw
          case rel => exact ⟨k + 1, by omega, by go_num, HU5.out, HV5.out, fun h => by omega, fun h => by omega, HB5.out⟩
          case measure => simp [intOf]; omega
      · have HK : Hid (k = 64) := by show k = 64; omega
        have hge : ¬ (k : Int) < 64 := by omega
        obtain ⟨P, R, hu2, hv2, hap, hlp, hlr, hhm⟩ := exitF key b HU.out HV.out HK.out
        have HU2 : Hid (Own wr w1.heap.size u6 P) := hu2
        have HV2 : Hid (Own wr w1.heap.size u7 R) := hv2
        have HA : Hid (u7.ownBlock ≠ u6.ownBlock) := hap
        have HLP : Hid (P.length = 64) := hlp
        have HLR : Hid (R.length = 64) := hlr
        have HBb : Hid (Bytes wr a b) := HB1.out.below hnx (Nat.le_refl _)
        obtain ⟨Z, hZ⟩ : ∃ Z, P ++ b = Z := ⟨_, rfl⟩
        have HZl : Hid (Z.length ≤ 140737488351300) := by show Z.length ≤ _; rw [← hZ, List.length_append, hlp]; omega
        rw [hZ] at hhm
        obtain ⟨Q, hQ⟩ : ∃ Q, shaL Z = Q := ⟨_, rfl⟩
        have HQl : Hid (Q.length = 32) := by show Q.length = 32; rw [← hQ]; exact shaL_length Z
        have HQ : Hid (shaL Z = Q) := hQ
        rw [hQ] at hhm
        obtain ⟨Y, hY⟩ : ∃ Y, R ++ Q = Y := ⟨_, rfl⟩
        have HYl : Hid (Y.length = 96) := by show Y.length = 96; rw [← hY, List.length_append, hlr, HQl.out]
        rw [hY] at hhm
        have HHM : Hid (hmacL key b = shaL Y) := hhm
        have HZ : Hid (P ++ b = Z) := hZ
        have HY : Hid (R ++ Q = Y) := hY
        clear HU HV HU0 HV0 HXK HKB hlt hu2 hv2 hap hlp hlr hhm hZ hQ hY
        go_wp2_with (at_builtin; refine wpList_append_bytes rfl (.tmp 39) (.tmp 40) rfl w1.heap.size u6 P rfl HU2.out a b cap rfl HBb.out hn (by rw [HLP.out]; omega) hsz ?_; intro v4 w4 ho4 hg4; rw [HZ.out] at ho4)
        have HB4 : Hid (Below w1.heap.size w1 w4) := hnx.grown hg4 hsz (fun j hj => (World.ownsRow.lt HU2.out j hj).1)
        have HV4 : Hid (Own w4 w1.heap.size u7 R) := own_kept HV2.out hg4 (.inr HA.out)
        obtain ⟨x4, c4, rfl, hx4, hc4, _⟩ := ho4.bytes'
        have HC4 : Hid _ := refSha_any x4 Z c4 w4 hc4 (by have := HZl.out; omega) hx4
        have hs4 := HB4.out.size
        clear ho4 hg4 hx4 hc4 hnx hsz HU2 HV2 HA HBb
        refine Calls.mono HC4.out ?_
        rintro e w5 ⟨v5, rfl, ho5, hb5⟩
        rw [HQ.out] at ho5
        obtain ⟨x5, c5, rfl, hx5, hc5, _⟩ := ho5.bytes'
        have HB5 : Hid (Below w1.heap.size w1 w5) := HB4.out.trans (hb5.mono hs4)
        have HV5 : Hid (Own w5 w1.heap.size u7 R) := own_below HV4.out hb5
        have hs5 := HB5.out.size
        have HX5 : Hid (Bytes w5 x5 Q) := hx5
        clear HC4 ho5 hb5 HB4 HV4 hs4 hx5
        go_wp2_with (at_builtin; refine wpList_append_bytes rfl (.tmp 38) (.tmp 42) rfl w1.heap.size u7 R rfl HV5.out x5 Q c5 rfl HX5.out hc5 (by rw [HLR.out, HQl.out]; omega) hs5 ?_; intro v6 w6 ho6 hg6; rw [HY.out] at ho6)
        have HB6 : Hid (Below w1.heap.size w1 w6) := HB5.out.grown hg6 hs5 (fun j hj => (World.ownsRow.lt HV5.out j hj).1)
        obtain ⟨x6, c6, rfl, hx6, hc6, _⟩ := ho6.bytes'
        have HC6 : Hid _ := refSha_any x6 Y c6 w6 hc6 (by rw [HYl.out]; omega) hx6
        have hs6 := HB6.out.size
        clear ho6 hg6 hx6 hc6 HV5 HX5 HB5 hs5
        refine Calls.mono HC6.out ?_
        rintro e w7 ⟨v7, rfl, ho7, hb7⟩
        have HB7 : Hid (Below w1.heap.size w1 w7) := HB6.out.trans (hb7.mono hs6)
        have HO7 : Hid (Own w7 w.heap.size v7 (hmacL key b)) := by
          show Own _ _ _ _
          rw [HHM.out]
          exact own_mono ho7 (by have := hB1.size; omega)
        have hB7 : Below w.heap.size w w7 := hB1.trans (HB7.out.mono hB1.size)
        clear HC6 ho7 hb7 HB6 HB7
        go_wp2
        go_ret
        exact ⟨_, rfl, HO7.out, hB7⟩
  · have hlong' : ¬ (64 : Int) < (key.length : Int) := by omega
    have HKB : Hid (kbL key = key ++ noughts (64 - key.length)) := by show kbL key = _; rw [kbL, if_neg hlong]
    have HXK : Hid (Bytes w ka key) := hkb
    have HB1 : Hid (Bytes w a b) := hb
    have hB1 : Below w.heap.size w w := Below.refl _ _
    clear hb hkb hkn
    go_enter Tryz.func109, Tryz.ntmps109
    go_wp2
    go_loopw [6, 7, 8, 9] (fun u v i _ wr => ∃ k : Nat, k ≤ 64 ∧ i = .int .i64 k ∧ Own wr w.heap.size u ((kx (kbL key) 54).take k) ∧ Own wr w.heap.size v ((kx (kbL key) 92).take k) ∧ (k = 0 → u = .slice none 0 0) ∧ (k = 0 → v = .slice none 0 0) ∧ Below w.heap.size w wr) (fun _ _ i _ _ => 64 - (intOf i).toNat)
    case atStart => exact ⟨0, by omega, rfl, World.ownsRow_nil _ _ _ _, World.ownsRow_nil _ _ _ _, fun _ => rfl, fun _ => rfl, Below.refl _ _⟩
    case round =>
      obtain ⟨k, hk, rfl, hu, hv, hu0, hv0, hnx⟩ := hrel
      have HU : Hid (Own wr w.heap.size u6 ((kx (kbL key) 54).take k)) := hu
      have HV : Hid (Own wr w.heap.size u7 ((kx (kbL key) 92).take k)) := hv
      have HU0 : Hid (k = 0 → u6 = .slice none 0 0) := hu0
      have HV0 : Hid (k = 0 → u7 = .slice none 0 0) := hv0
      clear hu hv hu0 hv0
      have hsz := hnx.size
      have HKL : Hid ((kbL key).length = 64) := kbL_length key
      by_cases hlt : k < 64
      · have hlt' : (k : Int) < 64 := by omega
        have HOU : Hid _ := kx_snoc (kbL key) 54 (k := k) (by rw [HKL.out]; exact hlt)
        have HOV : Hid _ := kx_snoc (kbL key) 92 (k := k) (by rw [HKL.out]; exact hlt)
        have HLU : Hid (((kx (kbL key) 54).take k).length = k) := take_len _ _ _ (by rw [HKL.out]; omega)
        have HLV : Hid (((kx (kbL key) 92).take k).length = k) := take_len _ _ _ (by rw [HKL.out]; omega)
        have hA1 : u7.ownBlock = none ∨ u7.ownBlock ≠ u6.ownBlock := by
          by_cases h0 : k = 0
          · left; rw [HV0.out h0]; rfl
          · exact apart_of (k := k) (by rw [HKL.out]; decide) HU.out (by rw [HLU.out]; omega) (first_more _ _ _ (by rw [HKL.out]; decide) (by omega)) HV.out HV0.out (by rw [HKL.out]; omega)
        have HA1 : Hid (u7.ownBlock = none ∨ u7.ownBlock ≠ u6.ownBlock) := hA1
        clear hA1
        have HUr : Hid (wr.ownsRow w.heap.size 5 1 u6 k (bcs ((kx (kbL key) 54).take k))) := by
          have h : wr.ownsRow w.heap.size 5 1 u6 ((kx (kbL key) 54).take k).length (bcs ((kx (kbL key) 54).take k)) := HU.out
          rw [HLU.out] at h
          exact h
        obtain ⟨x, hx⟩ : ∃ x, x = (kbL key).getD k 0 := ⟨_, rfl⟩
        rw [← hx] at HOU HOV
        have hxm : bits .xor .u8 (x.toNat : Int) 54 = ((x ^^^ 54).toNat : Int) := xor_u8 x 54
        have hxn : bits .xor .u8 (x.toNat : Int) 92 = ((x ^^^ 92).toNat : Int) := xor_u8 x 92
        generalize x ^^^ 54 = y at *
        generalize x ^^^ 92 = z at *
        by_cases hin : k < key.length
        · obtain ⟨bk, off, rfl, hbl, hcs⟩ := (HXK.out).at hin
          have hcell : wr.cell? ⟨bk, off + k, none⟩ = some (.int .u8 (x.toNat : Int)) := by
            rw [hnx.cell (p := ⟨bk, off + k, none⟩) hbl, hcs k hin, hx, kb_in HKB.out hin]
          have hin' : (k : Int) < (key.length : Int) := by omega
          clear hx hcs
          go_wp2_with (at_builtin; first
            | (refine wpList_append_own _ rfl (.tmp 28) (.tmp 31) 23 rfl w.heap.size 5 i0 (.int .u8 0) 1 1 Tryz.underlying23 hi hz0 hz1 hz2 rfl (by decide) _ _ _ rfl (World.ownsRow.alloc HUr.out _) ⟨wr.heap.size, 0, none⟩ 1 1 [.int .u8 (y.toNat : Int)] rfl rfl (cell_one_new _ _ _) (one_one _ rfl) (by unfold maxLen; omega) (by omega) (by simp; omega) ?_; intro v4 w4 hown4 hgrow4 _; have HB4 : Hid (Below w.heap.size w w4) := (hnx.alloc hsz _).grown hgrow4 (by simp; omega) (fun j hj => (World.ownsRow.lt HUr.out j hj).1); have HV4 : Hid (Own w4 w.heap.size _ ((kx (kbL key) 92).take k)) := own_kept (own_alloc HV.out _) hgrow4 HA1.out; have HVr : Hid (w4.ownsRow w.heap.size 5 1 _ k (bcs ((kx (kbL key) 92).take k))) := own_row HV4.out HLV.out; have hs4 := HB4.out.size)
            | (refine wpList_append_own _ rfl (.tmp 33) (.tmp 36) 23 rfl w.heap.size 5 i0 (.int .u8 0) 1 1 Tryz.underlying23 hi hz0 hz1 hz2 rfl (by decide) _ _ _ rfl (World.ownsRow.alloc HVr.out _) ⟨w4.heap.size, 0, none⟩ 1 1 [.int .u8 (z.toNat : Int)] rfl rfl (cell_one_new _ _ _) (one_one _ rfl) (by unfold maxLen; omega) (by omega) (by simp; omega) ?_; intro v5 w5 hown5 hgrow5 _))
          have HU4 : Hid (Own w4 w.heap.size v4 ((kx (kbL key) 54).take (k + 1))) := by
            show w4.ownsRow _ _ _ _ _ _
            rw [take_len _ _ _ (by rw [HKL.out]; omega), HOU.out, bcs_append]
            exact hown4
          have HA2 : Hid (_ ∨ _) := apart_of (k := k) (by rw [HKL.out]; decide) HU4.out (by rw [take_len _ _ _ (by rw [HKL.out]; omega)]; omega) rfl HV4.out HV0.out (by rw [HKL.out]; omega)
          have HB5 : Hid (Below w.heap.size w w5) := (HB4.out.alloc hs4 _).grown hgrow5 (by simp; omega) (fun j hj => (World.ownsRow.lt HVr.out j hj).1)
          have HV5 : Hid (Own w5 w.heap.size v5 ((kx (kbL key) 92).take (k + 1))) := by
            show w5.ownsRow _ _ _ _ _ _
            rw [take_len _ _ _ (by rw [HKL.out]; omega), HOV.out, bcs_append]
            exact hown5
          have HU5 : Hid (Own w5 w.heap.size v4 ((kx (kbL key) 54).take (k + 1))) := own_kept (row := u7.ownBlock) (own_alloc HU4.out _) hgrow5 (by
            rcases HA2.out with h | h
            · rw [h]
              cases v4.ownBlock with
              | none => exact .inl rfl
              | some g => exact .inr (by simp)
            · exact .inr (fun e => h e.symm))
          clear hown5 hgrow5 HVr HA2 hs4
          go_wp2
          go_roundw
          case rel => exact ⟨k + 1, by omega, by go_num, HU5.out, HV5.out, fun h => by omega, fun h => by omega, HB5.out⟩
          case measure => simp [intOf]; omega
        · have hx0 : x = 0 := by rw [hx, kb_out HKB.out hin]
          subst hx0
          have hxm' : bits .xor .u8 (0 : Int) 54 = (y.toNat : Int) := hxm
          have hxn' : bits .xor .u8 (0 : Int) 92 = (z.toNat : Int) := hxn
          clear hxm hxn
          have hin' : ¬ (k : Int) < (key.length : Int) := by omega
          clear hx
          go_wp2_with (at_builtin; first
            | (refine wpList_append_own _ rfl (.tmp 28) (.tmp 31) 23 rfl w.heap.size 5 i0 (.int .u8 0) 1 1 Tryz.underlying23 hi hz0 hz1 hz2 rfl (by decide) _ _ _ rfl (World.ownsRow.alloc HUr.out _) ⟨wr.heap.size, 0, none⟩ 1 1 [.int .u8 (y.toNat : Int)] rfl rfl (cell_one_new _ _ _) (one_one _ rfl) (by unfold maxLen; omega) (by omega) (by simp; omega) ?_; intro v4 w4 hown4 hgrow4 _; have HB4 : Hid (Below w.heap.size w w4) := (hnx.alloc hsz _).grown hgrow4 (by simp; omega) (fun j hj => (World.ownsRow.lt HUr.out j hj).1); have HV4 : Hid (Own w4 w.heap.size _ ((kx (kbL key) 92).take k)) := own_kept (own_alloc HV.out _) hgrow4 HA1.out; have HVr : Hid (w4.ownsRow w.heap.size 5 1 _ k (bcs ((kx (kbL key) 92).take k))) := own_row HV4.out HLV.out; have hs4 := HB4.out.size)
            | (refine wpList_append_own _ rfl (.tmp 33) (.tmp 36) 23 rfl w.heap.size 5 i0 (.int .u8 0) 1 1 Tryz.underlying23 hi hz0 hz1 hz2 rfl (by decide) _ _ _ rfl (World.ownsRow.alloc HVr.out _) ⟨w4.heap.size, 0, none⟩ 1 1 [.int .u8 (z.toNat : Int)] rfl rfl (cell_one_new _ _ _) (one_one _ rfl) (by unfold maxLen; omega) (by omega) (by simp; omega) ?_; intro v5 w5 hown5 hgrow5 _))
          have HU4 : Hid (Own w4 w.heap.size v4 ((kx (kbL key) 54).take (k + 1))) := by
            show w4.ownsRow _ _ _ _ _ _
            rw [take_len _ _ _ (by rw [HKL.out]; omega), HOU.out, bcs_append]
            exact hown4
          have HA2 : Hid (_ ∨ _) := apart_of (k := k) (by rw [HKL.out]; decide) HU4.out (by rw [take_len _ _ _ (by rw [HKL.out]; omega)]; omega) rfl HV4.out HV0.out (by rw [HKL.out]; omega)
          have HB5 : Hid (Below w.heap.size w w5) := (HB4.out.alloc hs4 _).grown hgrow5 (by simp; omega) (fun j hj => (World.ownsRow.lt HVr.out j hj).1)
          have HV5 : Hid (Own w5 w.heap.size v5 ((kx (kbL key) 92).take (k + 1))) := by
            show w5.ownsRow _ _ _ _ _ _
            rw [take_len _ _ _ (by rw [HKL.out]; omega), HOV.out, bcs_append]
            exact hown5
          have HU5 : Hid (Own w5 w.heap.size v4 ((kx (kbL key) 54).take (k + 1))) := own_kept (row := u7.ownBlock) (own_alloc HU4.out _) hgrow5 (by
            rcases HA2.out with h | h
            · rw [h]
              cases v4.ownBlock with
              | none => exact .inl rfl
              | some g => exact .inr (by simp)
            · exact .inr (fun e => h e.symm))
          clear hown5 hgrow5 HVr HA2 hs4
          go_wp2
          go_roundw
          case rel => exact ⟨k + 1, by omega, by go_num, HU5.out, HV5.out, fun h => by omega, fun h => by omega, HB5.out⟩
          case measure => simp [intOf]; omega
      · have HK : Hid (k = 64) := by show k = 64; omega
        have hge : ¬ (k : Int) < 64 := by omega
        obtain ⟨P, R, hu2, hv2, hap, hlp, hlr, hhm⟩ := exitF key b HU.out HV.out HK.out
        have HU2 : Hid (Own wr w.heap.size u6 P) := hu2
        have HV2 : Hid (Own wr w.heap.size u7 R) := hv2
        have HA : Hid (u7.ownBlock ≠ u6.ownBlock) := hap
        have HLP : Hid (P.length = 64) := hlp
        have HLR : Hid (R.length = 64) := hlr
        have HBb : Hid (Bytes wr a b) := HB1.out.below hnx (Nat.le_refl _)
        obtain ⟨Z, hZ⟩ : ∃ Z, P ++ b = Z := ⟨_, rfl⟩
        have HZl : Hid (Z.length ≤ 140737488351300) := by show Z.length ≤ _; rw [← hZ, List.length_append, hlp]; omega
        rw [hZ] at hhm
        obtain ⟨Q, hQ⟩ : ∃ Q, shaL Z = Q := ⟨_, rfl⟩
        have HQl : Hid (Q.length = 32) := by show Q.length = 32; rw [← hQ]; exact shaL_length Z
        have HQ : Hid (shaL Z = Q) := hQ
        rw [hQ] at hhm
        obtain ⟨Y, hY⟩ : ∃ Y, R ++ Q = Y := ⟨_, rfl⟩
        have HYl : Hid (Y.length = 96) := by show Y.length = 96; rw [← hY, List.length_append, hlr, HQl.out]
        rw [hY] at hhm
        have HHM : Hid (hmacL key b = shaL Y) := hhm
        have HZ : Hid (P ++ b = Z) := hZ
        have HY : Hid (R ++ Q = Y) := hY
        clear HU HV HU0 HV0 HXK HKB hlt hu2 hv2 hap hlp hlr hhm hZ hQ hY
        go_wp2_with (at_builtin; refine wpList_append_bytes rfl (.tmp 39) (.tmp 40) rfl w.heap.size u6 P rfl HU2.out a b cap rfl HBb.out hn (by rw [HLP.out]; omega) hsz ?_; intro v4 w4 ho4 hg4; rw [HZ.out] at ho4)
        have HB4 : Hid (Below w.heap.size w w4) := hnx.grown hg4 hsz (fun j hj => (World.ownsRow.lt HU2.out j hj).1)
        have HV4 : Hid (Own w4 w.heap.size u7 R) := own_kept HV2.out hg4 (.inr HA.out)
        obtain ⟨x4, c4, rfl, hx4, hc4, _⟩ := ho4.bytes'
        have HC4 : Hid _ := refSha_any x4 Z c4 w4 hc4 (by have := HZl.out; omega) hx4
        have hs4 := HB4.out.size
        clear ho4 hg4 hx4 hc4 hnx hsz HU2 HV2 HA HBb
        refine Calls.mono HC4.out ?_
        rintro e w5 ⟨v5, rfl, ho5, hb5⟩
        rw [HQ.out] at ho5
        obtain ⟨x5, c5, rfl, hx5, hc5, _⟩ := ho5.bytes'
        have HB5 : Hid (Below w.heap.size w w5) := HB4.out.trans (hb5.mono hs4)
        have HV5 : Hid (Own w5 w.heap.size u7 R) := own_below HV4.out hb5
        have hs5 := HB5.out.size
        have HX5 : Hid (Bytes w5 x5 Q) := hx5
        clear HC4 ho5 hb5 HB4 HV4 hs4 hx5
        go_wp2_with (at_builtin; refine wpList_append_bytes rfl (.tmp 38) (.tmp 42) rfl w.heap.size u7 R rfl HV5.out x5 Q c5 rfl HX5.out hc5 (by rw [HLR.out, HQl.out]; omega) hs5 ?_; intro v6 w6 ho6 hg6; rw [HY.out] at ho6)
        have HB6 : Hid (Below w.heap.size w w6) := HB5.out.grown hg6 hs5 (fun j hj => (World.ownsRow.lt HV5.out j hj).1)
        obtain ⟨x6, c6, rfl, hx6, hc6, _⟩ := ho6.bytes'
        have HC6 : Hid _ := refSha_any x6 Y c6 w6 hc6 (by rw [HYl.out]; omega) hx6
        have hs6 := HB6.out.size
        clear ho6 hg6 hx6 hc6 HV5 HX5 HB5 hs5
        refine Calls.mono HC6.out ?_
        rintro e w7 ⟨v7, rfl, ho7, hb7⟩
        have HB7 : Hid (Below w.heap.size w w7) := HB6.out.trans (hb7.mono hs6)
        have HO7 : Hid (Own w7 w.heap.size v7 (hmacL key b)) := by
          show Own _ _ _ _
          rw [HHM.out]
          exact own_mono ho7 (by have := hB1.size; omega)
        have hB7 : Below w.heap.size w w7 := hB1.trans (HB7.out.mono hB1.size)
        clear HC6 ho7 hb7 HB6 HB7
        go_wp2
        go_ret
        exact ⟨_, rfl, HO7.out, hB7⟩
end Go.Proofs.YtnmffehmjgknkaaGreatDoor
