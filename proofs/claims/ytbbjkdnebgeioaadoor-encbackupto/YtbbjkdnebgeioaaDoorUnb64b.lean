/-
  enc.Unbase64 by its contract.
-/
import Derived.Test.YtbbjkdnebgeioaaDoorUnb64
namespace Go.Proofs.YtbbjkdnebgeioaaDoor
open Go.RowKit

theorem byte_cell {n : Nat} (h : n < 256) : bcs [byte n] = [.int .u8 (n : Int)] := by
  simp only [bcs, List.map_cons, List.map_nil]
  rw [show ((byte n).toNat : Int) = N (byte n) from rfl, byte_N h]
theorem bad_char {l D : List UInt8} {p k : Nat} (hp : Pad l p) (hD : D = l.take (l.length - p)) (hk : k < D.length) (hb : okB D[k] = false) : ∀ y, b64 y ≠ l := by
  intro y hy
  subst hy
  have e : D = dg y := by rw [hD]; exact pad_take hp
  subst e
  have := (dg_all y.length y rfl).2.1 _ (List.getElem_mem hk)
  rw [hb] at this
  simp at this
theorem bad_held {l D : List UInt8} {p : Nat} (hp : Pad l p) (hD : D = l.take (l.length - p)) (hb : hds D D.length ≠ 0) : ∀ y, b64 y ≠ l := by
  intro y hy
  subst hy
  have e : D = dg y := by rw [hD]; exact pad_take hp
  subst e
  apply hb
  rw [hds, List.take_length]
  exact (dg_all y.length y rfl).2.2.1
theorem good_text {l D : List UInt8} {p : Nat} (h4 : l.length % 4 = 0) (hp : Pad l p) (hD : D = l.take (l.length - p)) (hok : ∀ j, j < D.length → okB (D.getD j 0) = true) (h0 : hds D D.length = 0) : b64 (dcs D D.length) = l := by
  have hs := pad_split hp
  have hl : D.length = l.length - p := by rw [hD]; simp
  have h2 := hp.2.1
  rw [hds, List.take_length] at h0
  rw [dcs, List.take_length, b64_sound D.length D p rfl (by omega) hp.1 (fun c hc => by
    obtain ⟨j, hj, rfl⟩ := List.mem_iff_getElem.1 hc
    have := hok j hj
    rwa [List.getD, List.getElem?_eq_getElem hj] at this) h0, hD, ← hs]

theorem and15_t : ∀ a : Nat, a < 64 → ∀ b : Nat, b < 64 → bits .and .u32 ((64 * a + b : Nat) : Int) 15 = (((64 * a + b : Nat) : Int)) % 16 := by decide +kernel
theorem and3_t : ∀ a : Nat, a < 64 → ∀ b : Nat, b < 64 → bits .and .u32 ((64 * a + b : Nat) : Int) 3 = (((64 * a + b : Nat) : Int)) % 4 := by decide +kernel
theorem and0_t : ∀ a : Nat, a < 64 → ∀ b : Nat, b < 64 → bits .and .u32 ((64 * a + b : Nat) : Int) 0 = 0 := by decide +kernel
theorem and15 {x : Int} (h0 : 0 ≤ x) (h1 : x < 4096) : bits .and .u32 x 15 = x % 16 := by
  obtain ⟨a, rfl⟩ := Int.eq_ofNat_of_zero_le h0
  have h := and15_t (a / 64) (by omega) (a % 64) (by omega)
  rw [show 64 * (a / 64) + a % 64 = a by omega] at h
  exact h
theorem and3 {x : Int} (h0 : 0 ≤ x) (h1 : x < 4096) : bits .and .u32 x 3 = x % 4 := by
  obtain ⟨a, rfl⟩ := Int.eq_ofNat_of_zero_le h0
  have h := and3_t (a / 64) (by omega) (a % 64) (by omega)
  rw [show 64 * (a / 64) + a % 64 = a by omega] at h
  exact h
theorem and0 {x : Int} (h0 : 0 ≤ x) (h1 : x < 4096) : bits .and .u32 x 0 = 0 := by
  obtain ⟨a, rfl⟩ := Int.eq_ofNat_of_zero_le h0
  have h := and0_t (a / 64) (by omega) (a % 64) (by omega)
  rw [show 64 * (a / 64) + a % 64 = a by omega] at h
  exact h

set_option maxHeartbeats 4000000 in
theorem unbase64_any (s : ByteArray) (w : World) (hr : s.size ≤ 140737488351232) :
    Calls Tryd.prog 12 #[.string s] w fun e w' => ∃ v x ok, e = .returned (.tuple #[v, .bool ok]) ∧ Own w' w.heap.size v x ∧ UB s.data.toList x ok ∧ Below w.heap.size w w' := by
  have HL : Hid (s.data.toList.length = s.size) := by show _ = _; simp
  obtain ⟨i0, hi, hz0, hz1, hz2⟩ := info_parts info5
  by_cases hodd : s.size % 4 = 0
  · have hodd' : ((s.size : Int) % 4 != 0) = false := by simp; omega
    have hm : (i0.bytes * (s.size / 4 * 3)) ≤ 281474976710656 := by rw [hz2]; omega
    have HO : Hid (s.size % 4 = 0) := hodd
    clear hodd
    go_enter Tryd.func12, Tryd.ntmps12
    go_wp2_with fail
    refine (filling_any s _ hr).mono ?_
    rintro e w' ⟨p, rfl, hpad, rfl⟩
    have hp2 : p ≤ 2 := hpad.1
    have hps : p ≤ s.size := by have := hpad.2.1; rw [HL.out] at this; exact this
    have HP : Hid (Pad s.data.toList p) := hpad
    clear hpad
    obtain ⟨d, hd⟩ : ∃ d, d = s.extract 0 (s.size - p) := ⟨_, rfl⟩
    have hds1 : d.size = s.size - p := by rw [hd]; simp
    have HD : Hid (d.data.toList = s.data.toList.take (s.data.toList.length - p)) := by
      show _ = _
      rw [HL.out, hd]
      simp [ByteArray.data_extract]
    have HDs : Hid (d.size = s.size - p) := hds1
    have hdsz : d.size ≤ s.size := by omega
    have HDl : Hid (d.data.toList.length = d.size) := by show _ = _; simp
    have HDD : Hid (d = s.extract 0 (s.size - p)) := hd
    clear hd hds1
    go_wp2_with (at_make; refine wpList_make_own _ rfl _ _ 27 rfl w.heap.size 5 i0 (.int .u8 0) 1 Tryd.underlying27 hi hz0 hz1 _ _ _ (s.size / 4 * 3) rfl rfl (by omega) hm (by unfold maxLen; omega) (Nat.le_refl _) ?_; intro w0 hown0 hgrow0)
    rw [← HDD.out, ← HDs.out]
    go_loopw [5, 6, 7, 29] (fun b h n i wr => ∃ k : Nat, k ≤ d.size ∧ Own wr w.heap.size b (dcs d.data.toList k) ∧ h = .int .u32 (hds d.data.toList k : Nat) ∧ n = .int .i64 (bt k) ∧ i = .int .i64 k ∧ (∀ j, j < k → okB (d.data.toList.getD j 0) = true) ∧ Below w.heap.size w wr)
      (fun _ _ _ i _ => d.size - (intOf i).toNat)
    case atStart => exact ⟨0, Nat.zero_le _, hown0, rfl, rfl, rfl, fun j hj => by omega, (Below.refl _ _).grown hgrow0 (Nat.le_refl _) (by simp)⟩
    case round =>
      obtain ⟨k, hk, hown, rfl, rfl, rfl, hall, hnx⟩ := hrel
      have hsz := hnx.size
      clear hown0 hgrow0
      by_cases hlt : k < d.size
      · have hltl : k < d.data.toList.length := by rw [HDl.out]; exact hlt
        have b1 : (d[k].toNat : Int) ≤ 255 := by have := d[k].toNat_lt; omega
        have vb : 0 ≤ svN (d[k].toNat : Int) ∧ svN (d[k].toNat : Int) ≤ 63 := svN_bd d[k]
        have sve : (sv d[k] : Int) = svN (d[k].toNat : Int) := (sv_eq d[k]).symm
        have SVE : Hid ((sv d[k] : Int) = svN (d[k].toNat : Int)) := sve
        clear sve
        have hdl := dcs_length d.data.toList k fun j hj => ⟨by rw [HDl.out]; omega, hall j hj⟩
        have hol : Hid (wr.ownsRow w.heap.size 5 1 u5 (dcs d.data.toList k).length (bcs (dcs d.data.toList k))) := hown
        by_cases o1 : svOk (d[k].toNat : Int) = true
        · have OKK : Hid (okB (d.data.toList.getD k 0) = true) := by
            show _ = _
            rw [getD_byte hlt]
            exact o1
          have SVL : Hid (sv d[k] < 64) := sv_lt o1
          have ST : Hid _ := step_dec hltl hall (show okB d.data.toList[k] = true from o1)
          have h4 : k % 4 = 0 ∨ k % 4 = 1 ∨ k % 4 = 2 ∨ k % 4 = 3 := by omega
          rcases h4 with h4 | h4 | h4 | h4
          · have hs := ST.out.1 h4
            have hh : hds d.data.toList k ≤ 0 := by have := hs.1; omega
            have HE : Hid (dcs d.data.toList (k + 1) = dcs d.data.toList k) := hs.2.1
            have HH : Hid (hds d.data.toList (k + 1) = sv d[k]) := hs.2.2
            have HZ : Hid (hds d.data.toList k = 0) := hs.1
            have e : bt k = 0 := by unfold bt; simp [h4]
            rw [e]
            have hor := or64 (x := hds d.data.toList k) (y := svN (d[k].toNat : Int)) (by omega) (svN_bd _)
            have H4 : Hid (k % 4 = 0) := h4
            clear hs e h4
            go_wp2_with (go_at_call 26; refine (sixValue_any _ _ (by omega) (by omega)).mono ?_; rintro e w' ⟨rfl, rfl⟩)
            go_roundw
            case rel => exact ⟨k + 1, by omega, by rw [HE.out]; exact hown, by rw [HH.out, SVE.out, HZ.out]; go_num, by have := H4.out; unfold bt; rw [if_neg (by omega), if_pos (by omega)], by go_num, fun j hj => by by_cases hjk : j = k; (subst hjk; exact OKK.out); exact hall j (by omega), hnx⟩
            case measure => simp [intOf]; omega
          · have hs := (ST.out.2.1 h4)
            have hh := hs.1
            have HE : Hid (dcs d.data.toList (k + 1) = dcs d.data.toList k ++ [byte (hds d.data.toList k * 4 + sv d[k] / 16)]) := hs.2.1
            have HH : Hid (hds d.data.toList (k + 1) = sv d[k] % 16) := hs.2.2
            have e : bt k = 6 := by unfold bt; simp [h4]
            rw [e]
            have hor := or64 (x := hds d.data.toList k) (y := svN (d[k].toNat : Int)) (by omega) (svN_bd _)
            have H4 : Hid _ := h4
            clear hs e h4
            go_wp2_with (first
              | (go_at_call 26; refine (sixValue_any _ _ (by omega) (by omega)).mono ?_; rintro e w' ⟨rfl, rfl⟩)
              | (at_builtin; refine wpList_append_own _ rfl (.tmp 52) (.tmp 57) 27 rfl w.heap.size 5 i0 (.int .u8 0) 1 1 Tryd.underlying27 hi hz0 hz1 hz2 rfl (by decide) _ _ _ rfl (hol.out.alloc _) ⟨wr.heap.size, 0, none⟩ 1 1 [.int .u8 (((hds d.data.toList k : Nat) * 64 + svN (d[k].toNat : Int) : Int) / 16)] rfl rfl ?c1a ?c2a ?c3a ?c4a ?c5a ?_))
            case c1a => exact cell_one_new _ _ _
            case c2a => exact one_one _ rfl
            case c3a => unfold maxLen; omega
            case c4a => omega
            case c5a => simp; omega
            intro v' w1 hown1 hgrow1 _
            have R : Own w1 w.heap.size v' (dcs d.data.toList (k + 1)) := by
              rw [HE.out]
              unfold Own
              rw [List.length_append, bcs_append, byte_cell (by have := SVL.out; omega)]
              have sve := SVE.out
              have ec : ((hds d.data.toList k * 4 + sv d[k] / 16 : Nat) : Int) = ((hds d.data.toList k : Nat) * 64 + svN (d[k].toNat : Int) : Int) / 16 := by omega
              rw [ec]
              exact hown1
            have hB1 : Below w.heap.size w w1 := (hnx.alloc hsz _).grown hgrow1 (by simp; omega) (fun j hj => (World.ownsRow.lt hol.out j hj).1)
            clear hown1 hgrow1 hor
            go_wp2
            go_roundw
            case rel => exact ⟨k + 1, by omega, R, by rw [HH.out, and15 (by omega) (by omega)]; have sve := SVE.out; go_num, by have := H4.out; unfold bt; rw [if_neg (by omega), if_neg (by omega), if_pos (by omega)], by go_num, fun j hj => by by_cases hjk : j = k; (subst hjk; exact OKK.out); exact hall j (by omega), hB1⟩
            case measure => simp [intOf]; omega
          · have hs := (ST.out.2.2.1 h4)
            have hh := hs.1
            have HE : Hid (dcs d.data.toList (k + 1) = dcs d.data.toList k ++ [byte (hds d.data.toList k * 16 + sv d[k] / 4)]) := hs.2.1
            have HH : Hid (hds d.data.toList (k + 1) = sv d[k] % 4) := hs.2.2
            have e : bt k = 4 := by unfold bt; simp [h4]
            rw [e]
            have hor := or64 (x := hds d.data.toList k) (y := svN (d[k].toNat : Int)) (by omega) (svN_bd _)
            have H4 : Hid _ := h4
            clear hs e h4
            go_wp2_with (first
              | (go_at_call 26; refine (sixValue_any _ _ (by omega) (by omega)).mono ?_; rintro e w' ⟨rfl, rfl⟩)
              | (at_builtin; refine wpList_append_own _ rfl (.tmp 52) (.tmp 57) 27 rfl w.heap.size 5 i0 (.int .u8 0) 1 1 Tryd.underlying27 hi hz0 hz1 hz2 rfl (by decide) _ _ _ rfl (hol.out.alloc _) ⟨wr.heap.size, 0, none⟩ 1 1 [.int .u8 (((hds d.data.toList k : Nat) * 64 + svN (d[k].toNat : Int) : Int) / 4)] rfl rfl ?c1b ?c2b ?c3b ?c4b ?c5b ?_))
            case c1b => exact cell_one_new _ _ _
            case c2b => exact one_one _ rfl
            case c3b => unfold maxLen; omega
            case c4b => omega
            case c5b => simp; omega
            intro v' w1 hown1 hgrow1 _
            have R : Own w1 w.heap.size v' (dcs d.data.toList (k + 1)) := by
              rw [HE.out]
              unfold Own
              rw [List.length_append, bcs_append, byte_cell (by have := SVL.out; omega)]
              have sve := SVE.out
              have ec : ((hds d.data.toList k * 16 + sv d[k] / 4 : Nat) : Int) = ((hds d.data.toList k : Nat) * 64 + svN (d[k].toNat : Int) : Int) / 4 := by omega
              rw [ec]
              exact hown1
            have hB1 : Below w.heap.size w w1 := (hnx.alloc hsz _).grown hgrow1 (by simp; omega) (fun j hj => (World.ownsRow.lt hol.out j hj).1)
            clear hown1 hgrow1 hor
            go_wp2
            go_roundw
            case rel => exact ⟨k + 1, by omega, R, by rw [HH.out, and3 (by omega) (by omega)]; have sve := SVE.out; go_num, by have := H4.out; unfold bt; rw [if_neg (by omega), if_neg (by omega), if_neg (by omega)], by go_num, fun j hj => by by_cases hjk : j = k; (subst hjk; exact OKK.out); exact hall j (by omega), hB1⟩
            case measure => simp [intOf]; omega
          · have hs := (ST.out.2.2.2 h4)
            have hh := hs.1
            have HE : Hid (dcs d.data.toList (k + 1) = dcs d.data.toList k ++ [byte (hds d.data.toList k * 64 + sv d[k])]) := hs.2.1
            have HH : Hid (hds d.data.toList (k + 1) = 0) := hs.2.2
            have e : bt k = 2 := by unfold bt; simp [h4]
            rw [e]
            have hor := or64 (x := hds d.data.toList k) (y := svN (d[k].toNat : Int)) (by omega) (svN_bd _)
            have H4 : Hid _ := h4
            clear hs e h4
            go_wp2_with (first
              | (go_at_call 26; refine (sixValue_any _ _ (by omega) (by omega)).mono ?_; rintro e w' ⟨rfl, rfl⟩)
              | (at_builtin; refine wpList_append_own _ rfl (.tmp 52) (.tmp 57) 27 rfl w.heap.size 5 i0 (.int .u8 0) 1 1 Tryd.underlying27 hi hz0 hz1 hz2 rfl (by decide) _ _ _ rfl (hol.out.alloc _) ⟨wr.heap.size, 0, none⟩ 1 1 [.int .u8 (((hds d.data.toList k : Nat) * 64 + svN (d[k].toNat : Int) : Int))] rfl rfl ?c1c ?c2c ?c3c ?c4c ?c5c ?_))
            case c1c => exact cell_one_new _ _ _
            case c2c => exact one_one _ rfl
            case c3c => unfold maxLen; omega
            case c4c => omega
            case c5c => simp; omega
            intro v' w1 hown1 hgrow1 _
            have R : Own w1 w.heap.size v' (dcs d.data.toList (k + 1)) := by
              rw [HE.out]
              unfold Own
              rw [List.length_append, bcs_append, byte_cell (by have := SVL.out; omega)]
              have sve := SVE.out
              have ec : ((hds d.data.toList k * 64 + sv d[k] : Nat) : Int) = ((hds d.data.toList k : Nat) * 64 + svN (d[k].toNat : Int) : Int) := by omega
              rw [ec]
              exact hown1
            have hB1 : Below w.heap.size w w1 := (hnx.alloc hsz _).grown hgrow1 (by simp; omega) (fun j hj => (World.ownsRow.lt hol.out j hj).1)
            clear hown1 hgrow1 hor
            go_wp2
            go_roundw
            case rel => exact ⟨k + 1, by omega, R, by rw [HH.out, and0 (by omega) (by omega)]; rfl, by have := H4.out; unfold bt; rw [if_pos (by omega)], by go_num, fun j hj => by by_cases hjk : j = k; (subst hjk; exact OKK.out); exact hall j (by omega), hB1⟩
            case measure => simp [intOf]; omega
        · have o1' : svOk (d[k].toNat : Int) = false := by simpa using o1
          have HN : Hid (∀ y, b64 y ≠ s.data.toList) := bad_char HP.out HD.out hltl (show okB d.data.toList[k] = false from o1')
          clear o1
          go_wp2_with (go_at_call 26; refine (sixValue_any _ _ (by omega) (by omega)).mono ?_; rintro e w' ⟨rfl, rfl⟩)
          go_ret2
          exact ⟨_, [], false, rfl, own_nil _ _ rfl, ub_no HN.out, hnx⟩
      · have hkd : k = d.size := by omega
        have HKD : Hid (k = d.size) := hkd
        by_cases hz : hds d.data.toList k = 0
        · have HY : Hid (b64 (dcs d.data.toList k) = s.data.toList) := by
            show _ = _
            rw [HKD.out, ← HDl.out]
            exact good_text (by rw [HL.out]; exact HO.out) HP.out HD.out (by rw [HDl.out, ← HKD.out]; exact hall) (by rw [HDl.out, ← HKD.out]; exact hz)
          have hq : (((hds d.data.toList k : Nat) : Int) != 0) = false := by simp [hz]
          clear hz hkd hall
          go_wp2
          go_ret2
          exact ⟨_, _, true, rfl, hown, ub_yes HY.out, hnx⟩
        · have HN : Hid (∀ y, b64 y ≠ s.data.toList) := bad_held HP.out HD.out (by rw [HDl.out, ← HKD.out]; exact hz)
          have hq : (((hds d.data.toList k : Nat) : Int) != 0) = true := by simp [hz]
          clear hz hkd hall
          go_wp2
          go_ret2
          exact ⟨_, [], false, rfl, own_nil _ _ rfl, ub_no HN.out, hnx⟩
  · have hodd' : ((s.size : Int) % 4 != 0) = true := by simp; omega
    have HN : Hid (∀ y, b64 y ≠ s.data.toList) := by
      intro y hy
      have := b64_len4 y
      rw [hy, HL.out] at this
      exact hodd this
    clear hodd
    go_enter Tryd.func12, Tryd.ntmps12
    go_wp2
    go_ret2
    exact ⟨_, [], false, rfl, own_nil _ _ rfl, ub_no HN.out, Below.refl _ _⟩
end Go.Proofs.YtbbjkdnebgeioaaDoor
