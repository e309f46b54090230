/-
  enc.filling and enc.Unbase64 by their contracts.
-/
import Derived.Test.YtbbjkdnebgeioaaDoorB64Math
namespace Go.Proofs.YtbbjkdnebgeioaaDoor
open Go.RowKit

theorem getD_byte {s : ByteArray} {i : Nat} (h : i < s.size) : s.data.toList.getD i 0 = s[i] := by
  have h' : i < s.data.toList.length := by simpa using h
  rw [List.getD, List.getElem?_eq_getElem h']
  rfl
theorem eq61 {c : UInt8} : c = 61 ↔ (c.toNat : Int) = 61 := by
  constructor
  · rintro rfl; rfl
  · intro h
    apply UInt8.toNat_inj.1
    show c.toNat = 61
    omega

set_option maxHeartbeats 800000 in
theorem filling_any (s : ByteArray) (w : World) (hs : s.size ≤ 140737488351232) :
    Calls Tryd.prog 25 #[.string s] w fun e w' => ∃ p : Nat, e = .returned (.int .i64 (p : Int)) ∧ Pad s.data.toList p ∧ w = w' := by
  have HL : Hid (s.data.toList.length = s.size) := by show _ = _; simp
  go_enter Tryd.func25, Tryd.ntmps25
  go_wp2
  go_loop [3] (fun n => ∃ k : Nat, k ≤ 2 ∧ n = .int .i64 k ∧ k ≤ s.size ∧ ∀ j, j < k → s.data.toList.getD (s.size - 1 - j) 0 = 61) (fun n => 2 - (intOf n).toNat)
  case atStart => exact ⟨0, by omega, rfl, Nat.zero_le _, fun j hj => by omega⟩
  case round =>
    obtain ⟨k, hk, rfl, hks, hall⟩ := hrel
    have HA : Hid (∀ j, j < k → s.data.toList.getD (s.size - 1 - j) 0 = 61) := hall
    clear hall
    by_cases h2 : k < 2
    · by_cases hlt : k < s.size
      · have hix : s.size - 1 - k < s.size := by omega
        by_cases hq : (s[s.size - 1 - k].toNat : Int) = 61
        · have hq' : ((s[s.size - 1 - k].toNat : Int) == 61) = true := by simp [hq]
          have HQ : Hid ((s[s.size - 1 - k].toNat : Int) = 61) := hq
          clear hq
          go_wp2
          go_round
          case rel =>
            refine ⟨k + 1, by omega, by go_num, by omega, fun j hj => ?_⟩
            by_cases hjk : j = k
            · subst hjk
              rw [getD_byte hix]
              exact eq61.2 HQ.out
            · exact HA.out j (by omega)
          case measure => simp [intOf]; omega
        · have hq' : ((s[s.size - 1 - k].toNat : Int) == 61) = false := by simp [hq]
          have HQ : Hid (¬ (s[s.size - 1 - k].toNat : Int) = 61) := hq
          clear hq
          go_wp2
          go_ret
          refine ⟨k, rfl, ⟨by omega, by rw [HL.out]; exact hks, ?_, ?_⟩, rfl⟩
          · rw [HL.out]
            exact HA.out
          · intro _ _ he
            rw [HL.out, getD_byte hix] at he
            exact HQ.out (eq61.1 he)
      · go_wp2
        go_ret
        refine ⟨k, rfl, ⟨by omega, by rw [HL.out]; exact hks, ?_, ?_⟩, rfl⟩
        · rw [HL.out]
          exact HA.out
        · intro _ h
          rw [HL.out] at h
          omega
    · go_wp2
      go_ret
      refine ⟨k, rfl, ⟨by omega, by rw [HL.out]; exact hks, ?_, ?_⟩, rfl⟩
      · rw [HL.out]
        exact HA.out
      · intro h
        omega

/-- What an answer of Unbase64 says of the text. -/
def UB (l x : List UInt8) (ok : Bool) : Prop := (ok = true → b64 x = l) ∧ (ok = false → x = [] ∧ ∀ y, b64 y ≠ l)
theorem ub_no {l : List UInt8} (h : ∀ y, b64 y ≠ l) : UB l [] false := ⟨fun h => by simp at h, fun _ => ⟨rfl, h⟩⟩
theorem ub_yes {l x : List UInt8} (h : b64 x = l) : UB l x true := ⟨fun _ => h, fun h => by simp at h⟩

def bt (k : Nat) : Int := if k % 4 = 0 then 0 else if k % 4 = 1 then 6 else if k % 4 = 2 then 4 else 2
theorem or64_table : ∀ x : Nat, x < 64 → ∀ y : Nat, y < 64 → bits .or .u32 ((x : Int) * 64) (y : Int) = (x : Int) * 64 + (y : Int) := by decide +kernel
theorem or64 {x : Nat} {y : Int} (h1 : x < 64) (h2 : 0 ≤ y ∧ y ≤ 63) : bits .or .u32 ((x : Int) * 64) y = (x : Int) * 64 + y := by
  obtain ⟨b, rfl⟩ := Int.eq_ofNat_of_zero_le h2.1
  exact or64_table x h1 b (by omega)
theorem svN_bd (c : UInt8) : 0 ≤ svN (N c) ∧ svN (N c) ≤ 63 := by
  have := N_bd c
  unfold svN
  repeat' split
  all_goals omega
theorem sv_eq (c : UInt8) : svN (N c) = (sv c : Nat) := by have := svN_bd c; unfold sv; omega

def dcs (l : List UInt8) (k : Nat) : List UInt8 := dec ((l.take k).map sv)
def hds (l : List UInt8) (k : Nat) : Nat := held ((l.take k).map sv)
theorem step_dec {l : List UInt8} {k : Nat} (hk : k < l.length) (hall : ∀ j, j < k → okB (l.getD j 0) = true) (hx : okB l[k] = true) :
    (k % 4 = 0 → hds l k = 0 ∧ dcs l (k + 1) = dcs l k ∧ hds l (k + 1) = sv l[k]) ∧
    (k % 4 = 1 → hds l k < 64 ∧ dcs l (k + 1) = dcs l k ++ [byte (hds l k * 4 + sv l[k] / 16)] ∧ hds l (k + 1) = sv l[k] % 16) ∧
    (k % 4 = 2 → hds l k < 16 ∧ dcs l (k + 1) = dcs l k ++ [byte (hds l k * 16 + sv l[k] / 4)] ∧ hds l (k + 1) = sv l[k] % 4) ∧
    (k % 4 = 3 → hds l k < 4 ∧ dcs l (k + 1) = dcs l k ++ [byte (hds l k * 64 + sv l[k])] ∧ hds l (k + 1) = 0) := by
  have hl : ((l.take k).map sv).length = k := by simp; omega
  have h := dec_snoc (sv l[k]) k ((l.take k).map sv) hl (fun y hy => by
    simp only [List.mem_map] at hy
    obtain ⟨c, hc, rfl⟩ := hy
    obtain ⟨j, hj, rfl⟩ := List.mem_take_iff_getElem.1 hc
    have := hall j (by omega)
    rw [List.getD, List.getElem?_eq_getElem (by omega)] at this
    exact sv_lt this) (sv_lt hx)
  rw [hl] at h
  have e : (l.take (k + 1)).map sv = (l.take k).map sv ++ [sv l[k]] := by rw [List.take_succ_eq_append_getElem hk, List.map_append]; rfl
  unfold dcs hds
  rw [e]
  exact h
theorem dcs_length (l : List UInt8) : ∀ k, (∀ j, j < k → j < l.length ∧ okB (l.getD j 0) = true) → (dcs l k).length ≤ k
  | 0, _ => by simp [dcs, dec]
  | k + 1, h => by
    have ih := dcs_length l k fun j hj => h j (by omega)
    have hk := (h k (by omega)).1
    have hx : okB l[k] = true := by
      have := (h k (by omega)).2
      rwa [List.getD, List.getElem?_eq_getElem hk] at this
    have s := step_dec hk (fun j hj => (h j (by omega)).2) hx
    have h4 : k % 4 = 0 ∨ k % 4 = 1 ∨ k % 4 = 2 ∨ k % 4 = 3 := by omega
    rcases h4 with h4 | h4 | h4 | h4
    · rw [(s.1 h4).2.1]; omega
    · rw [(s.2.1 h4).2.1]; simp; omega
    · rw [(s.2.2.1 h4).2.1]; simp; omega
    · rw [(s.2.2.2 h4).2.1]; simp; omega
end Go.Proofs.YtbbjkdnebgeioaaDoor
