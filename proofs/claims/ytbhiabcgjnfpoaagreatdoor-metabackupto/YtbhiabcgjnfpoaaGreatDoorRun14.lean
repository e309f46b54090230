/-
  enc.Int by its contract.
-/
import Derived.Test.YtbhiabcgjnfpoaaGreatDoorRun01
import Derived.Test.YtbhiabcgjnfpoaaGreatDoorRun02
import Derived.Lib.AppendStr
namespace Go.Proofs.YtbhiabcgjnfpoaaGreatDoor.En
open Go.RowKit

def ival (l : List UInt8) : Nat → Int
  | 0 => 0
  | k + 1 => ival l k * 10 + dvN (nth l k)
theorem dvN_bd (c : Int) : 0 ≤ dvN c ∧ dvN c ≤ 9 := by unfold dvN; split <;> omega
theorem ival_bd (l : List UInt8) : ∀ k, 0 ≤ ival l k ∧ ival l k + 1 ≤ (10 : Int) ^ k
  | 0 => by simp [ival]
  | k + 1 => by
    have h := ival_bd l k
    have d := dvN_bd (nth l k)
    simp only [ival, Int.pow_succ]
    omega
theorem pow_mono : ∀ k : Nat, k < 18 → (10 : Int) ^ k ≤ 10 ^ 17 := by decide +kernel
theorem ival_17 (l : List UInt8) {k : Nat} (h : k < 18) : ival l k ≤ 99999999999999999 := by
  have hb := ival_bd l k
  have hp : (10 : Int) ^ k ≤ 10 ^ 17 := pow_mono k (by omega)
  have he : (10 : Int) ^ 17 = 100000000000000000 := by decide
  omega
def intOk (l : List UInt8) : Bool := decide (1 ≤ l.length) && decide (l.length ≤ 18) && !(decide (1 < l.length) && decide (nth l 0 = 48)) && (List.range l.length).all fun i => dvOk (nth l i)
def intV (l : List UInt8) : Int := if intOk l then ival l l.length else 0
theorem intV_no {l : List UInt8} (h : intOk l = false) : intV l = 0 := by simp [intV, h]
theorem intV_yes {l : List UInt8} (h : intOk l = true) : intV l = ival l l.length := by simp [intV, h]
theorem intOk_0 {l : List UInt8} (h : l.length = 0) : intOk l = false := by simp [intOk, h]
theorem intOk_18 {l : List UInt8} (h : 18 < l.length) : intOk l = false := by
  have : decide (l.length ≤ 18) = false := decide_eq_false (by omega)
  simp [intOk, this]
theorem intOk_lead {l : List UInt8} (h : 1 < l.length) (h0 : nth l 0 = 48) : intOk l = false := by simp [intOk, h, h0]
theorem intOk_at {l : List UInt8} {k : Nat} (hk : k < l.length) (h : dvOk (nth l k) = false) : intOk l = false := by
  rw [intOk, Bool.and_eq_false_iff]
  right
  rw [List.all_eq_false]
  exact ⟨k, by simpa using hk, by simp [h]⟩
theorem intOk_all {l : List UInt8} (h1 : 1 ≤ l.length) (h18 : l.length ≤ 18) (h0 : 1 < l.length → nth l 0 ≠ 48) (h : ∀ i, i < l.length → dvOk (nth l i) = true) : intOk l = true := by
  rw [intOk, Bool.and_eq_true, Bool.and_eq_true, Bool.and_eq_true]
  refine ⟨⟨⟨by simpa using h1, by simpa using h18⟩, ?_⟩, ?_⟩
  · simp only [Bool.not_eq_true', Bool.and_eq_false_iff, decide_eq_false_iff_not]
    by_cases hh : 1 < l.length
    · exact .inr (h0 hh)
    · exact .inl hh
  · rw [List.all_eq_true]
    intro x hx
    exact h x (by simpa using hx)

set_option maxHeartbeats 800000 in
/-- The loop and what stands behind it, once the length and the first digit are as they may be. -/
theorem int_core (s : ByteArray) (w : World) (h1 : 0 < s.size) (h18 : s.size ≤ 18) (hl : 1 < s.size → ((s[0]'h1).toNat : Int) ≠ 48) :
    Calls Tryz.prog 96 #[.string s] w fun e w' => e = .returned (.tuple #[.int .i64 (intV s.data.toList), .bool (intOk s.data.toList)]) ∧ w = w' := by
  have hL : Hid (s.data.toList.length = s.size) := by show _ = _; simp
  have hz : ((s.size : Int) == 0) = false := by rw [beq_eq_false_iff_ne]; omega
  have hfirst : Hid (1 < s.data.toList.length → nth s.data.toList 0 ≠ 48) := by
    show 1 < s.data.toList.length → nth s.data.toList 0 ≠ 48
    intro h
    rw [nth_eq (i := 0) (l := s.data.toList) (by omega)]
    exact hl (by simpa using h)
  have hg : (((s.size : Int) ≤ 1) ∨ ((1 : Int) < (s.size : Int) ∧ (((s[0]'h1).toNat : Int) == 48) = false)) := by
    by_cases hone : s.size = 1
    · exact .inl (by omega)
    · exact .inr ⟨by omega, by have := hl (by omega); simpa using this⟩
  clear hl
  rcases hg with hg | ⟨hg, hg0⟩
  all_goals
    go_enter Tryz.func96, Tryz.ntmps96
    go_wp2
    go_loop [4, 28] (fun n i => ∃ k : Nat, k ≤ s.size ∧ i = .int .i64 k ∧ n = .int .i64 (ival s.data.toList k) ∧ ∀ j, j < k → dvOk (nth s.data.toList j) = true) (fun _ i => s.size - (intOf i).toNat)
    case atStart => exact ⟨0, Nat.zero_le _, rfl, rfl, fun j hj => by omega⟩
    case round =>
      obtain ⟨k, hk, rfl, rfl, hall⟩ := hrel
      by_cases hlt : k < s.size
      · have b1 : (s[k].toNat : Int) ≤ 255 := by have := s[k].toNat_lt; omega
        have iv0 := (ival_bd s.data.toList k).1
        have iv1 := ival_17 s.data.toList (k := k) (by omega)
        have d0 := dvN_bd (s[k].toNat : Int)
        have HN : Hid (nth s.data.toList k = (s[k].toNat : Int)) := nth_eq (by simpa using hlt)
        by_cases o1 : dvOk (s[k].toNat : Int) = true
        · go_wp2_with (go_at_call 120; refine (decimalValue_any _ _ (by omega) (by omega)).mono ?_; rintro e w' ⟨rfl, rfl⟩)
          go_round
          case rel =>
            refine ⟨k + 1, by omega, by go_num, ?_, ?_⟩
            · rw [ival, HN.out]
            · intro j hj
              by_cases hjk : j = k
              · rw [hjk, HN.out]; exact o1
              · exact hall j (by omega)
          case measure => simp [intOf]; omega
        · have o1' : dvOk (s[k].toNat : Int) = false := by simpa using o1
          clear o1
          go_wp2_with (go_at_call 120; refine (decimalValue_any _ _ (by omega) (by omega)).mono ?_; rintro e w' ⟨rfl, rfl⟩)
          go_ret2
          have hno : intOk s.data.toList = false := intOk_at (k := k) (by rw [hL.out]; exact hlt) (by rw [HN.out]; exact o1')
          exact ⟨ret_ib (intV_no hno).symm hno.symm, rfl⟩
      · have hkl : k = s.size := by omega
        subst hkl
        have hyes : Hid (intOk s.data.toList = true) := intOk_all (by rw [hL.out]; exact h1) (by rw [hL.out]; exact h18) hfirst.out (by rw [hL.out]; exact hall)
        clear hall
        go_wp2
        go_ret2
        exact ⟨ret_ib (by rw [intV_yes hyes.out, hL.out]) hyes.out.symm, rfl⟩

theorem int_any (s : ByteArray) (w : World) (hs : s.size ≤ 140737488351232) :
    Calls Tryz.prog 96 #[.string s] w fun e w' => e = .returned (.tuple #[.int .i64 (intV s.data.toList), .bool (intOk s.data.toList)]) ∧ w = w' := by
  have hL : s.data.toList.length = s.size := by simp
  by_cases a : s.size = 0
  · have hno : Hid (intOk s.data.toList = false) := intOk_0 (by rw [hL]; exact a)
    have hz : ((s.size : Int) == 0) = true := by simp [a]
    clear a hL
    go_enter Tryz.func96, Tryz.ntmps96
    go_wp2
    go_ret2
    exact ⟨ret_ib (intV_no hno.out).symm hno.out.symm, rfl⟩
  · have hp : 0 < s.size := by omega
    by_cases b : s.size ≤ 18
    · by_cases c : 1 < s.size ∧ ((s[0]'hp).toNat : Int) = 48
      · have hno : Hid (intOk s.data.toList = false) := intOk_lead (by rw [hL]; exact c.1) (by rw [nth_eq (i := 0) (l := s.data.toList) (by rw [hL]; omega)]; exact c.2)
        have hz : ((s.size : Int) == 0) = false := by rw [beq_eq_false_iff_ne]; omega
        have hg : (1 : Int) < (s.size : Int) := by have := c.1; omega
        have h48 : (((s[0]'hp).toNat : Int) == 48) = true := by simp [c.2]
        clear a hL c
        go_enter Tryz.func96, Tryz.ntmps96
        go_wp2
        go_ret2
        exact ⟨ret_ib (intV_no hno.out).symm hno.out.symm, rfl⟩
      · exact int_core s w hp b (fun h1 h2 => c ⟨h1, h2⟩)
    · have hno : Hid (intOk s.data.toList = false) := intOk_18 (by rw [hL]; omega)
      have hz : ((s.size : Int) == 0) = false := by rw [beq_eq_false_iff_ne]; omega
      have hg : (18 : Int) < (s.size : Int) := by omega
      clear a hL b
      go_enter Tryz.func96, Tryz.ntmps96
      go_wp2
      go_ret2
      exact ⟨ret_ib (intV_no hno.out).symm hno.out.symm, rfl⟩
end Go.Proofs.YtbhiabcgjnfpoaaGreatDoor.En
/-
  enc.Pack by its contract.
-/
namespace Go.Proofs.YtbhiabcgjnfpoaaGreatDoor.En
open Go.RowKit

/-- The slice's head leads to the texts L (or there are none). -/
def Strs (w : World) (a : Option Addr) (L : List ByteArray) : Prop :=
  L = [] ∨ ∃ b off, a = some ⟨b, off, none⟩ ∧ b < w.heap.size ∧ ∀ j (h : j < L.length), w.cell? ⟨b, off + j, none⟩ = some (.string L[j])

theorem Strs.at {w : World} {a : Option Addr} {L : List ByteArray} (h : Strs w a L) {k : Nat} (hk : k < L.length) :
    ∃ b off, a = some ⟨b, off, none⟩ ∧ b < w.heap.size ∧ ∀ j (h : j < L.length), w.cell? ⟨b, off + j, none⟩ = some (.string L[j]) := by
  rcases h with rfl | h
  · simp at hk
  · exact h

theorem Strs.below {w w' : World} {a : Option Addr} {L : List ByteArray} (h : Strs w a L) {B : Nat} (hb : Below B w w') (hB : w.heap.size ≤ B) : Strs w' a L := by
  rcases h with rfl | ⟨b, off, rfl, hb', hc⟩
  · exact .inl rfl
  · refine .inr ⟨b, off, rfl, by have := hb.size; omega, fun j hj => ?_⟩
    rw [hb.cell (p := ⟨b, off + j, none⟩) (by show b < B; omega)]
    exact hc j hj

def tot : List ByteArray → Nat
  | [] => 0
  | s :: r => 4 + s.size + tot r
theorem tot_append (L M : List ByteArray) : tot (L ++ M) = tot L + tot M := by
  induction L with
  | nil => simp [tot]
  | cons a r ih => simp only [List.cons_append, tot, ih]; omega
theorem tot_snoc (L : List ByteArray) (k : Nat) (h : k < L.length) : tot (L.take (k + 1)) = tot (L.take k) + (4 + L[k].size) := by
  rw [List.take_succ_eq_append_getElem h, tot_append]
  simp [tot]
theorem tot_take (L : List ByteArray) (k : Nat) : tot (L.take k) ≤ tot L := by
  have := tot_append (L.take k) (L.drop k)
  rw [List.take_append_drop] at this
  omega
def packOne (s : ByteArray) : List UInt8 := be s.size 4 ++ s.data.toList
def packL (L : List ByteArray) : List UInt8 := L.flatMap packOne
theorem packL_snoc (L : List ByteArray) (k : Nat) (h : k < L.length) : packL (L.take (k + 1)) = packL (L.take k) ++ packOne L[k] := by
  rw [List.take_succ_eq_append_getElem h, packL, List.flatMap_append]
  simp only [List.flatMap_cons, List.flatMap_nil, List.append_nil]
  rfl
theorem packOne_length (s : ByteArray) : (packOne s).length = 4 + s.size := by simp [packOne, be_length]
theorem packL_length (L : List ByteArray) : (packL L).length = tot L := by
  induction L with
  | nil => rfl
  | cons a r ih =>
    have : packL (a :: r) = packOne a ++ packL r := rfl
    rw [this, List.length_append, packOne_length, ih, tot]

set_option maxHeartbeats 800000 in
theorem pack_any (a : Option Addr) (L : List ByteArray) (cap : Nat) (w : World) (hr : tot L ≤ 281474976710656 / 4) (hs : Strs w a L) :
    Calls Tryz.prog 84 #[.slice a L.length cap] w fun e w' => ∃ v', e = .returned v' ∧ Own w' w.heap.size v' (packL L) ∧ Below w.heap.size w w' := by
  obtain ⟨i0, hi, hz0, hz1, hz2⟩ := info_parts info5
  have hll : L.length ≤ tot L := by
    clear hr hs
    induction L with
    | nil => simp [tot]
    | cons x r ih => simp only [List.length_cons, tot]; omega
  have hm : i0.bytes * tot L ≤ 281474976710656 := by rw [hz2]; omega
  go_enter Tryz.func84, Tryz.ntmps84
  go_wp2
  go_loop [3, 11] (fun n i => ∃ k : Nat, k ≤ L.length ∧ i = .int .i64 k ∧ n = .int .i64 (tot (L.take k) : Nat)) (fun _ i => L.length - (intOf i).toNat)
  case atStart => exact ⟨0, Nat.zero_le _, rfl, rfl⟩
  case round =>
    obtain ⟨k, hk, rfl, rfl⟩ := hrel
    have htk := tot_take L k
    by_cases hlt : k < L.length
    · obtain ⟨b, off, rfl, hbl, hcs⟩ := hs.at hlt
      have hcell : w.cell? ⟨b, off + k, none⟩ = some (.string L[k]) := hcs k hlt
      have HS : Hid (tot (L.take (k + 1)) = tot (L.take k) + (4 + L[k].size)) := tot_snoc L k hlt
      have ht2 : tot (L.take k) + (4 + L[k].size) ≤ tot L := by rw [← HS.out]; exact tot_take L (k + 1)
      go_wp2
      go_round
      case rel => exact ⟨k + 1, by omega, by go_num, by rw [HS.out]; go_num⟩
      case measure => simp [intOf]; omega
    · have hkl : k = L.length := by omega
      subst hkl
      rw [List.take_length]
      clear htk hlt hk
      go_wp2_with (at_make; refine wpList_make_own _ rfl _ _ 76 rfl w.heap.size 5 i0 (.int .u8 0) 1 Tryz.underlying76 hi hz0 hz1 _ _ _ (tot L) rfl rfl (by omega) hm (by unfold maxLen; omega) (Nat.le_refl _) ?_; intro w0 hown0 hgrow0)
      go_loopw [6, 25] (fun v i wr => ∃ k : Nat, k ≤ L.length ∧ i = .int .i64 k ∧ Own wr w.heap.size v (packL (L.take k)) ∧ Below w.heap.size w wr)
        (fun _ i _ => L.length - (intOf i).toNat)
      case atStart => exact ⟨0, Nat.zero_le _, rfl, hown0, (Below.refl _ _).grown hgrow0 (Nat.le_refl _) (by simp)⟩
      case round =>
        obtain ⟨k, hk, rfl, hown, hnx⟩ := hrel
        have hsz := hnx.size
        have htk := tot_take L k
        clear hown0 hgrow0
        by_cases hlt : k < L.length
        · obtain ⟨b, off, rfl, hbl, hcs⟩ := hs.at hlt
          have hcell : wr.cell? ⟨b, off + k, none⟩ = some (.string L[k]) := (hnx.cell (p := ⟨b, off + k, none⟩) hbl).trans (hcs k hlt)
          have HS : Hid (tot (L.take (k + 1)) = tot (L.take k) + (4 + L[k].size)) := tot_snoc L k hlt
          have ht2 : tot (L.take k) + (4 + L[k].size) ≤ tot L := by rw [← HS.out]; exact tot_take L (k + 1)
          go_wp2_with (first
            | (go_at_call 116; refine (appendNumber_any w.heap.size _ (packL (L.take k)) L[k].size 4 _ hown hsz (by omega) (by rw [packL_length]; omega) (by omega)).mono ?_; rintro e w1 ⟨v1, rfl, ho1, hb1⟩)
            | (at_builtin; refine Lib.wpList_append_own_string _ rfl (.tmp 34) (.tmp 35) 76 9 rfl w.heap.size 5 i0 Tryz.underlying76 Tryz.underlying9 hi hz0 hz1 hz2 _ _ _ rfl ho1 L[k] rfl ?c1 ?c2 ?c3 ?_))
          case c1 => simp only [List.length_append, packL_length, be_length]; unfold maxLen; omega
          case c2 => simp only [List.length_append, packL_length, be_length]; omega
          case c3 => have := hb1.size; omega
          intro v2 w2 hown2 hgrow2 _
          have R : Own w2 w.heap.size v2 (packL (L.take (k + 1))) := by
            have e : packL (L.take (k + 1)) = packL (L.take k) ++ be L[k].size 4 ++ L[k].data.toList := by rw [packL_snoc L k hlt, packOne, List.append_assoc]
            have e2 : (packL (L.take k) ++ be L[k].size 4 ++ L[k].data.toList).length = (packL (L.take k)).length + (be L[k].size 4).length + L[k].size := by rw [List.length_append, List.length_append]; simp
            unfold Own
            rw [e, e2, bcs_append]
            exact hown2
          have hbl2 : Below w.heap.size w w2 := (hnx.trans hb1).grown hgrow2 (by have := hb1.size; omega) (fun j hj => (World.ownsRow.lt ho1 j hj).1)
          clear hown2 hgrow2 ho1
          go_wp2
          go_roundw
          case rel => exact ⟨k + 1, by omega, by go_num, R, hbl2⟩
          case measure => simp [intOf]; omega
        · have hkl : k = L.length := by omega
          subst hkl
          rw [List.take_length] at hown
          go_wp2
          go_ret
          exact ⟨_, rfl, hown, hnx⟩
end Go.Proofs.YtbhiabcgjnfpoaaGreatDoor.En
