/-
  chars.escaped and chars.Unescape by their contracts.
-/
import Derived.Test.YtnmffehmjgknkaaGreatDoorChEsc
namespace Go.Proofs.YtnmffehmjgknkaaGreatDoor.Ch
open Go.RowKit

def N (c : UInt8) : Int := (c.toNat : Int)
def pv (a b : UInt8) : UInt8 := UInt8.ofNat (16 * hvN (N a) + hvN (N b)).toNat
def une : List UInt8 → Option (List UInt8)
  | [] => some []
  | [a] => if a.toNat = 37 then none else some [a]
  | [a, b] => if a.toNat = 37 then none else (une [b]).map (a :: ·)
  | a :: b :: c :: r => if a.toNat = 37 then (if hvOk (N b) && hvOk (N c) then (une r).map (pv b c :: ·) else none) else (une (b :: c :: r)).map (a :: ·)
theorem une_cons (a : UInt8) (r : List UInt8) (h : a.toNat ≠ 37) : une (a :: r) = (une r).map (a :: ·) := by
  match r with
  | [] => simp [une, h]
  | [b] => simp [une, h]
  | b :: c :: r => rw [une, if_neg h]
theorem une_plain {l : List UInt8} {k : Nat} (hk : k < l.length) (h : l[k].toNat ≠ 37) : une (l.drop k) = (une (l.drop (k + 1))).map (l[k] :: ·) := by
  rw [List.drop_eq_getElem_cons hk, une_cons _ _ h]
theorem une_short {l : List UInt8} {k : Nat} (hk : k < l.length) (h : l[k].toNat = 37) (h2 : l.length ≤ k + 2) : une (l.drop k) = none := by
  by_cases h1 : k + 1 < l.length
  · rw [List.drop_eq_getElem_cons hk, List.drop_eq_getElem_cons h1, List.drop_eq_nil_of_le (by omega), une, if_pos h]
  · rw [List.drop_eq_getElem_cons hk, List.drop_eq_nil_of_le (by omega), une, if_pos h]
theorem une_three {l : List UInt8} {k : Nat} (h2 : k + 2 < l.length) (h : l[k].toNat = 37) : une (l.drop k) = if hvOk (N l[k + 1]) && hvOk (N l[k + 2]) then (une (l.drop (k + 3))).map (pv l[k + 1] l[k + 2] :: ·) else none := by
  rw [List.drop_eq_getElem_cons (by omega : k < l.length), List.drop_eq_getElem_cons (by omega : k + 1 < l.length), List.drop_eq_getElem_cons h2, une, if_pos h]
theorem pv_cell (a b : UInt8) : bcs [pv a b] = [.int .u8 (16 * hvN (N a) + hvN (N b))] := by
  have h1 := hv_bd (N a)
  have h2 := hv_bd (N b)
  simp only [bcs, List.map_cons, List.map_nil]
  rw [pv, UInt8.toNat_ofNat', Nat.mod_eq_of_lt (by omega)]
  congr 2
  omega
theorem or16_table : ∀ x : Nat, x < 16 → ∀ y : Nat, y < 16 → bits .or .u8 ((x : Int) * 16 % 256) (y : Int) = 16 * (x : Int) + (y : Int) := by decide +kernel
theorem or16 {x y : Int} (h1 : 0 ≤ x ∧ x ≤ 15) (h2 : 0 ≤ y ∧ y ≤ 15) : bits .or .u8 (x * 16 % 256) y = 16 * x + y := by
  obtain ⟨a, rfl⟩ := Int.eq_ofNat_of_zero_le h1.1
  obtain ⟨b, rfl⟩ := Int.eq_ofNat_of_zero_le h2.1
  exact or16_table a (by omega) b (by omega)

theorem or16' {x y : Int} (h1 : 0 ≤ x ∧ x ≤ 15) (h2 : 0 ≤ y ∧ y ≤ 15) : bits .or .u8 (x * 16) y = (16 : Int) * x + y := by
  have := or16 h1 h2
  rwa [Int.emod_eq_of_lt (by omega) (by omega)] at this

set_option maxHeartbeats 800000 in
theorem escaped_two (t : ByteArray) (w : World) (ht : t.size ≤ maxLen) (h2 : 2 ≤ t.size) :
    Calls Tryz.prog 92 #[.string t] w fun e w' => e = .returned (.tuple #[.int .u8 (if hvOk (N t[0]) && hvOk (N t[1]) then 16 * hvN (N t[0]) + hvN (N t[1]) else 0), .bool (hvOk (N t[0]) && hvOk (N t[1]))]) ∧ w = w' := by
  unfold maxLen at ht
  have b0 : (t[0].toNat : Int) ≤ 255 := by have := t[0].toNat_lt; omega
  have b1 : (t[1].toNat : Int) ≤ 255 := by have := t[1].toNat_lt; omega
  have g0 := hv_bd (N t[0])
  have g1 := hv_bd (N t[1])
  have HO : Hid (bits .or .u8 (hvN (N t[0]) * 16) (hvN (N t[1])) = (16 : Int) * hvN (N t[0]) + hvN (N t[1])) := or16' g0 g1
  have H0 : Hid (∀ W, Calls Tryz.prog 152 #[.int .u8 (t[0].toNat : Int)] W fun e w' => e = .returned (.tuple #[.int .u8 (hvN (N t[0])), .bool (hvOk (N t[0]))]) ∧ W = w') := fun W => digitValue_any (N t[0]) W (Int.natCast_nonneg _) b0
  have H1 : Hid (∀ W, Calls Tryz.prog 152 #[.int .u8 (t[1].toNat : Int)] W fun e w' => e = .returned (.tuple #[.int .u8 (hvN (N t[1])), .bool (hvOk (N t[1]))]) ∧ W = w') := fun W => digitValue_any (N t[1]) W (Int.natCast_nonneg _) b1
  cases o0 : hvOk (N t[0]) <;> cases o1 : hvOk (N t[1])
  all_goals
    rw [o0] at H0
    rw [o1] at H1
    go_enter Tryz.func92, Tryz.ntmps92
    go_wp2_with fail
    refine (H0.out _).mono ?_
    rintro e w' ⟨rfl, rfl⟩
    go_wp2_with fail
    refine (H1.out _).mono ?_
    rintro e w' ⟨rfl, rfl⟩
    go_wp2
    go_ret2
    first
      | exact ⟨ret_ib rfl rfl, rfl⟩
      | exact ⟨ret_ib HO.out rfl, rfl⟩
theorem escaped_short (t : ByteArray) (w : World) (h2 : t.size < 2) :
    Calls Tryz.prog 92 #[.string t] w fun e w' => e = .returned (.tuple #[.int .u8 0, .bool false]) ∧ w = w' := by
  have h2' : (t.size : Int) < 2 := by omega
  go_enter Tryz.func92, Tryz.ntmps92
  go_wp2
  go_ret2
  exact ⟨rfl, rfl⟩

def uneOk (l : List UInt8) : Bool := (une l).isSome
def uneV (l : List UInt8) : List UInt8 := (une l).getD []
theorem extract_at {s : ByteArray} {i j : Nat} (h : i + j < s.size) (h' : j < (s.extract i s.size).size) : (s.extract i s.size)[j] = s[i + j] := by
  rw [ByteArray.getElem_extract]

set_option maxHeartbeats 1000000 in
theorem unescape_any (s : ByteArray) (w : World) (hr : s.size ≤ 140737488351232) :
    Calls Tryz.prog 34 #[.string s] w fun e w' => e = .returned (.tuple #[.string ⟨(uneV s.data.toList).toArray⟩, .bool (uneOk s.data.toList)]) ∧ Below w.heap.size w w' := by
  obtain ⟨i0, hi, hz0, hz1, hz2⟩ := info_parts info5
  have hm : (i0.bytes * s.size) ≤ 281474976710656 := by rw [hz2]; omega
  have hL : s.data.toList.length = s.size := by simp
  have HL : Hid (s.data.toList.length = s.size) := hL
  clear hL
  go_enter Tryz.func34, Tryz.ntmps34
  go_wp2_with (at_make; refine wpList_make_own _ rfl _ _ 23 rfl w.heap.size 5 i0 (.int .u8 0) 1 Tryz.underlying23 hi hz0 hz1 _ _ _ s.size rfl rfl (by omega) hm (by unfold maxLen; omega) (Nat.le_refl _) ?_; intro w0 hown0 hgrow0)
  go_loopw [4, 5] (fun v i wr => ∃ (k : Nat) (acc : List UInt8), k ≤ s.size ∧ i = .int .i64 k ∧ acc.length ≤ k ∧ Own wr w.heap.size v acc ∧ Below w.heap.size w wr ∧ une s.data.toList = (une (s.data.toList.drop k)).map (acc ++ ·))
    (fun _ i _ => s.size - (intOf i).toNat)
  case atStart => exact ⟨0, [], Nat.zero_le _, rfl, Nat.le_refl _, hown0, (Below.refl _ _).grown hgrow0 (Nat.le_refl _) (by simp), by simp⟩
  case round =>
    obtain ⟨k, acc, hk, rfl, hak, hown, hnx, hc⟩ := hrel
    have hsz := hnx.size
    clear hown0 hgrow0
    have HC : Hid (une s.data.toList = (une (s.data.toList.drop k)).map (acc ++ ·)) := hc
    have HO : Hid (Own wr w.heap.size u4 acc) := hown
    clear hc hown
    by_cases hlt : k < s.size
    · have hkl : k < s.data.toList.length := by rw [HL.out]; exact hlt
      by_cases h37 : s[k].toNat = 37
      · have hq : ((s[k].toNat : Int) != 37) = false := by simp; omega
        have H37 : Hid (s.data.toList[k].toNat = 37) := h37
        clear h37
        by_cases h2 : k + 2 < s.size
        · have h2l : k + 2 < s.data.toList.length := by rw [HL.out]; exact h2
          have HT := une_three h2l H37.out
          have e1 : s.data.toList[k + 1] = s[k + 1] := rfl
          have e2 : s.data.toList[k + 2] = s[k + 2] := rfl
          rw [e1, e2] at HT
          clear e1 e2
          have hxs : (s.extract (k + 1) s.size).size = s.size - (k + 1) := by simp
          have HE : Hid (∀ W, Calls Tryz.prog 92 #[.string (s.extract (k + 1) s.size)] W fun e w' => e = .returned (.tuple #[.int .u8 (if hvOk (N s[k + 1]) && hvOk (N s[k + 2]) then 16 * hvN (N s[k + 1]) + hvN (N s[k + 2]) else 0), .bool (hvOk (N s[k + 1]) && hvOk (N s[k + 2]))]) ∧ W = w') := by
            intro W
            have := escaped_two (s.extract (k + 1) s.size) W (by unfold maxLen; omega) (by omega)
            rw [extract_at (by omega : k + 1 + 0 < s.size), extract_at (by omega : k + 1 + 1 < s.size)] at this
            exact this
          clear hxs
          cases ho : (hvOk (N s[k + 1]) && hvOk (N s[k + 2]))
          · rw [ho] at HT HE
            simp only [Bool.false_eq_true, if_false] at HT HE
            have HZ : Hid (une s.data.toList = none) := by
              have := HC.out
              rw [HT] at this
              exact this
            clear HT ho
            go_wp2_with (go_at_call 92; refine (HE.out _).mono ?_; rintro e w' ⟨rfl, rfl⟩)
            go_ret2
            exact ⟨ret_sb (by rw [uneV, HZ.out]; rfl) (by rw [uneOk, HZ.out]; rfl), hnx⟩
          · rw [ho] at HT HE
            simp only [if_true] at HT HE
            have HP : Hid (bcs [pv s[k + 1] s[k + 2]] = [.int .u8 (16 * hvN (N s[k + 1]) + hvN (N s[k + 2]))]) := pv_cell _ _
            have HU : Hid (une s.data.toList = (une (s.data.toList.drop (k + 3))).map ((acc ++ [pv s[k + 1] s[k + 2]]) ++ ·)) := by
              show une s.data.toList = _
              rw [HC.out, HT, Option.map_map]
              refine congrArg (fun f => Option.map f _) ?_
              funext x
              simp
            clear HT ho
            go_wp2_with (first
              | (go_at_call 92; refine (HE.out _).mono ?_; rintro e w' ⟨rfl, rfl⟩)
              | (at_builtin; refine wpList_append_own _ rfl (.tmp 37) (.tmp 39) 23 rfl w.heap.size 5 i0 (.int .u8 0) 1 1 Tryz.underlying23 hi hz0 hz1 hz2 rfl (by decide) _ _ _ rfl (World.ownsRow.alloc HO.out _) ⟨wr.heap.size, 0, none⟩ 1 1 [.int .u8 (16 * hvN (N s[k + 1]) + hvN (N s[k + 2]))] rfl rfl (cell_one_new _ _ _) (one_one _ rfl) (by unfold maxLen; omega) (by omega) (by simp; omega) ?_; intro v1 w1 hown1 hgrow1 _))
            have HR : Hid (Own w1 w.heap.size v1 (acc ++ [pv s[k + 1] s[k + 2]])) := own_more rfl HP.out hown1
            have hB1 : Below w.heap.size w w1 := (hnx.alloc hsz _).grown hgrow1 (by simp; omega) (fun j hj => (World.ownsRow.lt HO.out j hj).1)
            clear hown1 hgrow1
            go_wp2
            go_roundw
            case rel => exact ⟨k + 3, acc ++ [pv s[k + 1] s[k + 2]], by omega, by go_num, by simp; omega, HR.out, hB1, HU.out⟩
            case measure => simp [intOf]; omega
        · have HT := une_short hkl H37.out (by rw [HL.out]; omega)
          have HZ : Hid (une s.data.toList = none) := by
            have := HC.out
            rw [HT] at this
            exact this
          clear HT
          have hxs : (s.extract (k + 1) s.size).size = s.size - (k + 1) := by simp
          have HE : Hid (∀ W, Calls Tryz.prog 92 #[.string (s.extract (k + 1) s.size)] W fun e w' => e = .returned (.tuple #[.int .u8 0, .bool false]) ∧ W = w') := fun W => escaped_short _ W (by omega)
          clear hxs
          go_wp2_with (go_at_call 92; refine (HE.out _).mono ?_; rintro e w' ⟨rfl, rfl⟩)
          go_ret2
          exact ⟨ret_sb (by rw [uneV, HZ.out]; rfl) (by rw [uneOk, HZ.out]; rfl), hnx⟩
      · have hq : ((s[k].toNat : Int) != 37) = true := by simp; omega
        have HT := une_plain hkl h37
        have HU : Hid (une s.data.toList = (une (s.data.toList.drop (k + 1))).map ((acc ++ [s[k]]) ++ ·)) := by
          show une s.data.toList = _
          rw [HC.out, HT, Option.map_map]
          refine congrArg (fun f => Option.map f _) ?_
          funext x
          simp
          rfl
        have HP : Hid (bcs [s[k]] = [.int .u8 (s[k].toNat : Int)]) := rfl
        clear HT h37
        go_wp2_with (at_builtin; refine wpList_append_own _ rfl (.tmp 21) (.tmp 25) 23 rfl w.heap.size 5 i0 (.int .u8 0) 1 1 Tryz.underlying23 hi hz0 hz1 hz2 rfl (by decide) _ _ _ rfl (World.ownsRow.alloc HO.out _) ⟨wr.heap.size, 0, none⟩ 1 1 [.int .u8 (s[k].toNat : Int)] rfl rfl (cell_one_new _ _ _) (one_one _ rfl) (by unfold maxLen; omega) (by omega) (by simp; omega) ?_; intro v1 w1 hown1 hgrow1 _)
        have HR : Hid (Own w1 w.heap.size v1 (acc ++ [s[k]])) := own_more rfl HP.out hown1
        have hB1 : Below w.heap.size w w1 := (hnx.alloc hsz _).grown hgrow1 (by simp; omega) (fun j hj => (World.ownsRow.lt HO.out j hj).1)
        clear hown1 hgrow1
        go_wp2
        go_roundw
        case rel => exact ⟨k + 1, acc ++ [s[k]], by omega, by go_num, by simp; omega, HR.out, hB1, HU.out⟩
        case measure => simp [intOf]; omega
    · have HZ : Hid (une s.data.toList = some acc) := by
        have := HC.out
        rw [List.drop_eq_nil_of_le (by rw [HL.out]; omega)] at this
        exact (by simpa [une] using this : une s.data.toList = some acc)
      obtain ⟨a', cap', rfl, hbs⟩ := Own.bytes HO.out
      have hcv := convert_bytes wr a' cap' _ hbs
      clear HC HO
      go_wp2
      go_ret2
      exact ⟨ret_sb (by rw [uneV, HZ.out]; rfl) (by rw [uneOk, HZ.out]; rfl), hnx⟩
end Go.Proofs.YtnmffehmjgknkaaGreatDoor.Ch
