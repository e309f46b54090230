/-
  The document's Unhex by its contract.
-/
import Derived.Test.YtaagnckppdaljaaDoorEnUnhex
namespace Go.Proofs.YtaagnckppdaljaaDoor.En
open Go.RowKit

theorem fh_table : ∀ c : Nat, c < 256 → fnd hexText.data.toList (c : Int) 0 = if hvOk (c : Int) then hvN (c : Int) else -1 := by decide +kernel
theorem fh {c : Int} (h0 : 0 ≤ c) (h1 : c ≤ 255) : fnd hexText.data.toList c 0 = if hvOk c then hvN c else -1 := by
  obtain ⟨a, rfl⟩ := Int.eq_ofNat_of_zero_le h0
  exact fh_table a (by omega)

theorem findHex_any (c : Int) (w : World) (h0 : 0 ≤ c) (h1 : c ≤ 255) :
    Calls Tryd.prog 66 #[.string ⟨#[48, 49, 50, 51, 52, 53, 54, 55, 56, 57, 97, 98, 99, 100, 101, 102]⟩, .int .u8 c] w fun e w' => e = .returned (.int .i64 (if hvOk c then hvN c else -1)) ∧ w = w' := by
  rw [← fh h0 h1]
  exact find_any hexText c w (by decide)
def fhV (c : Int) : Int := if hvOk c then hvN c else -1
theorem findHex_val (c : Int) (w : World) (h0 : 0 ≤ c) (h1 : c ≤ 255) :
    Calls Tryd.prog 66 #[.string ⟨#[48, 49, 50, 51, 52, 53, 54, 55, 56, 57, 97, 98, 99, 100, 101, 102]⟩, .int .u8 c] w fun e w' => e = .returned (.int .i64 (fhV c)) ∧ w = w' :=
  findHex_any c w h0 h1
theorem findHex_yes (c : Int) (w : World) (h0 : 0 ≤ c) (h1 : c ≤ 255) (h : hvOk c = true) :
    Calls Tryd.prog 66 #[.string ⟨#[48, 49, 50, 51, 52, 53, 54, 55, 56, 57, 97, 98, 99, 100, 101, 102]⟩, .int .u8 c] w fun e w' => e = .returned (.int .i64 (hvN c)) ∧ w = w' := by
  have := findHex_any c w h0 h1
  rw [if_pos h] at this
  exact this
theorem findHex_no (c : Int) (w : World) (h0 : 0 ≤ c) (h1 : c ≤ 255) (h : hvOk c = false) :
    Calls Tryd.prog 66 #[.string ⟨#[48, 49, 50, 51, 52, 53, 54, 55, 56, 57, 97, 98, 99, 100, 101, 102]⟩, .int .u8 c] w fun e w' => e = .returned (.int .i64 (-1)) ∧ w = w' := by
  have := findHex_any c w h0 h1
  rw [if_neg (by simp [h])] at this
  exact this

theorem pv_of2 {s : ByteArray} {k : Nat} (h1 : 2 * k < s.size) (h2 : 2 * k + 1 < s.size) : bcs [pv s.data.toList k] = [.int .u8 (16 * hvN (s[2 * k].toNat : Int) + hvN (s[2 * k + 1].toNat : Int))] := by
  rw [pv_of h1 h2, or16 (hvN_bd _) (hvN_bd _)]

set_option maxHeartbeats 800000 in
theorem refUnhex_any (s : ByteArray) (w : World) (hr : s.size ≤ 140737488351232) :
    Calls Tryd.prog 45 #[.string s] w fun e w' => ∃ v, e = .returned (.tuple #[v, .bool (uhOk s.data.toList)]) ∧ Own w' w.heap.size v (uhL s.data.toList) ∧ Below w.heap.size w w' := by
  have hL : s.data.toList.length = s.size := by simp
  obtain ⟨i0, hi, hz0, hz1, hz2⟩ := info_parts info5
  by_cases hodd : s.size % 2 = 0
  · have hodd' : ((s.size : Int) % 2 != 0) = false := by simp; omega
    have HO : Hid (s.size % 2 = 0) := hodd
    have HL : Hid (s.data.toList.length = s.size) := hL
    clear hodd hL
    go_enter Tryd.func45, Tryd.ntmps45
    go_wp2
    go_loopw [4, 5] (fun v i wr => ∃ k : Nat, k ≤ s.size / 2 ∧ i = .int .i64 ((2 * k : Nat) : Int) ∧ wr.ownsRow w.heap.size 5 1 v k (bcs (prs s.data.toList k)) ∧ Below w.heap.size w wr ∧ (∀ j, j < k → pOk s.data.toList j = true))
      (fun _ i _ => s.size - (intOf i).toNat)
    case atStart => exact ⟨0, Nat.zero_le _, rfl, World.ownsRow_nil _ _ _ _, Below.refl _ _, fun j hj => by omega⟩
    case round =>
      obtain ⟨k, hk, rfl, hown, hnx, hall⟩ := hrel
      have hsz := hnx.size
      by_cases hlt : k < s.size / 2
      · have h0 := HO.out
        have hl1 : 2 * k < s.size := by omega
        have hl2 : 2 * k + 1 < s.size := by omega
        have b1 : (s[2 * k].toNat : Int) ≤ 255 := by have := s[2 * k].toNat_lt; omega
        have b2 : (s[2 * k + 1].toNat : Int) ≤ 255 := by have := s[2 * k + 1].toNat_lt; omega
        have n1 := hvN_bd (s[2 * k].toNat : Int)
        have n2 := hvN_bd (s[2 * k + 1].toNat : Int)
        clear h0
        have HP : Hid (pOk s.data.toList k = (hvOk (s[2 * k].toNat : Int) && hvOk (s[2 * k + 1].toNat : Int))) := pOk_of hl1 hl2
        by_cases o1 : hvOk (s[2 * k].toNat : Int) = true
        · by_cases o2 : hvOk (s[2 * k + 1].toNat : Int) = true
          · go_wp2_with fail
            refine (findHex_yes _ _ (by omega) (by omega) o1).mono ?_
            rintro e w' ⟨rfl, rfl⟩
            go_wp2_with fail
            refine (findHex_yes _ _ (by omega) (by omega) o2).mono ?_
            rintro e w' ⟨rfl, rfl⟩
            go_wp2_with (at_builtin; refine wpList_append_own _ rfl (.tmp 33) (.tmp 39) 45 rfl w.heap.size 5 i0 (.int .u8 0) 1 1 Tryd.underlying45 hi hz0 hz1 hz2 rfl (by decide) _ _ _ rfl (hown.alloc _) ⟨wr.heap.size, 0, none⟩ 1 1 [.int .u8 (16 * hvN (s[2 * k].toNat : Int) + hvN (s[2 * k + 1].toNat : Int))] rfl rfl ?c1 ?c2 ?c3 ?c4 ?c5 ?_)
            case c1 => exact cell_one_new _ _ _
            case c2 => exact one_one _ rfl
            case c3 => unfold maxLen; omega
            case c4 => omega
            case c5 => simp; omega
            intro v' w1 hown1 hgrow1 _
            go_wp2
            go_roundw
            case rel =>
              refine ⟨k + 1, by omega, by go_num, ?_, ?_, ?_⟩
              · rw [prs_succ, bcs_append, pv_of2 hl1 hl2]
                exact hown1
              · exact (hnx.alloc hsz _).grown hgrow1 (by simp; omega) (fun j hj => (hown.lt j hj).1)
              · intro j hj
                by_cases hjk : j = k
                · rw [hjk, HP.out, o1, o2]; rfl
                · exact hall j (by omega)
            case measure => simp [intOf]; omega
          · have o2' : hvOk (s[2 * k + 1].toNat : Int) = false := by simpa using o2
            clear o2
            go_wp2_with fail
            refine (findHex_yes _ _ (by omega) (by omega) o1).mono ?_
            rintro e w' ⟨rfl, rfl⟩
            go_wp2_with fail
            refine (findHex_no _ _ (by omega) (by omega) o2').mono ?_
            rintro e w' ⟨rfl, rfl⟩
            go_wp2
            go_ret2
            have hno : uhOk s.data.toList = false := uhOk_at (k := k) (by rw [HL.out]; omega) (by rw [HP.out, o2', Bool.and_false])
            exact ⟨_, ret_vb hno.symm, own_nil _ _ (uhL_no hno), hnx⟩
        · have o1' : hvOk (s[2 * k].toNat : Int) = false := by simpa using o1
          clear o1
          go_wp2_with fail
          refine (findHex_no _ _ (by omega) (by omega) o1').mono ?_
          rintro e w' ⟨rfl, rfl⟩
          go_wp2_with fail
          refine (findHex_val _ _ (by omega) (by omega)).mono ?_
          rintro e w' ⟨rfl, rfl⟩
          go_wp2
          go_ret2
          have hno : uhOk s.data.toList = false := uhOk_at (k := k) (by rw [HL.out]; omega) (by rw [HP.out, o1', Bool.false_and])
          exact ⟨_, ret_vb hno.symm, own_nil _ _ (uhL_no hno), hnx⟩
      · have hkl : k = s.size / 2 := by omega
        have h0 := HO.out
        have hge : ¬ (2 * (k : Int) < (s.size : Int)) := by omega
        have HK : Hid (k = s.size / 2) := hkl
        have HZ : Hid (s.size % 2 = 0) := h0
        clear hkl h0
        have hyes : uhOk s.data.toList = true := uhOk_all (by rw [HL.out]; exact HZ.out) (by rw [HL.out, ← HK.out]; exact hall)
        have HY : Hid (uhOk s.data.toList = true) := hyes
        have ho : Own wr w.heap.size u4 (uhL s.data.toList) := by
          have e : uhL s.data.toList = prs s.data.toList k := by rw [uhL_yes HY.out, HL.out, ← HK.out]
          rw [Own, e, prs_length]
          exact hown
        clear hyes hall hown
        go_wp2
        go_ret2
        exact ⟨_, ret_vb HY.out.symm, ho, hnx⟩
  · have hodd' : ((s.size : Int) % 2 != 0) = true := by simp; omega
    have hno : uhOk s.data.toList = false := uhOk_odd (by rw [hL]; exact hodd)
    have HN : Hid (uhOk s.data.toList = false) := hno
    clear hno hL hodd
    go_enter Tryd.func45, Tryd.ntmps45
    go_wp2
    go_ret2
    exact ⟨_, ret_vb HN.out.symm, own_nil _ _ (uhL_no HN.out), Below.refl _ _⟩
end Go.Proofs.YtaagnckppdaljaaDoor.En
