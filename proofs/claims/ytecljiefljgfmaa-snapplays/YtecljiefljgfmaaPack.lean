/-
  enc.Pack by its contract.
-/
import Derived.Test.YtecljiefljgfmaaNum
import Derived.Lib.AppendStr
namespace Go.Proofs.Ytecljiefljgfmaa
open Go.RowKit

/-- The slice's head leads to the texts L (or there are none). -/
def Strs (w : World) (a : Option Addr) (L : List ByteArray) : Prop :=
  L = [] ∨ ∃ b off, a = some ⟨b, off, none⟩ ∧ b < w.heap.size ∧ ∀ j (h : j < L.length), w.cell? ⟨b, off + j, none⟩ = some (.string L[j])

theorem Strs.at {w : World} {a : Option Addr} {L : List ByteArray} (h : Strs w a L) {k : Nat} (hk : k < L.length) :
    ∃ b off, a = some ⟨b, off, none⟩ ∧ b < w.heap.size ∧ ∀ j (h : j < L.length), w.cell? ⟨b, off + j, none⟩ = some (.string L[j]) := by
  rcases h with rfl | h
  · simp at hk
  · exact h

theorem Strs.below {w w' : World} {a : Option Addr} {L : List ByteArray} (h : Strs w a L) {B : Nat} (hb : Below B w w') (hB : w.heap.size ≤ B) : Strs w' a L := by
  rcases h with rfl | ⟨b, off, rfl, hb', hc⟩
  · exact .inl rfl
  · refine .inr ⟨b, off, rfl, by have := hb.size; omega, fun j hj => ?_⟩
    rw [hb.cell (p := ⟨b, off + j, none⟩) (by show b < B; omega)]
    exact hc j hj

def tot : List ByteArray → Nat
  | [] => 0
  | s :: r => 4 + s.size + tot r
theorem tot_append (L M : List ByteArray) : tot (L ++ M) = tot L + tot M := by
  induction L with
  | nil => simp [tot]
  | cons a r ih => simp only [List.cons_append, tot, ih]; omega
theorem tot_snoc (L : List ByteArray) (k : Nat) (h : k < L.length) : tot (L.take (k + 1)) = tot (L.take k) + (4 + L[k].size) := by
  rw [List.take_succ_eq_append_getElem h, tot_append]
  simp [tot]
theorem tot_take (L : List ByteArray) (k : Nat) : tot (L.take k) ≤ tot L := by
  have := tot_append (L.take k) (L.drop k)
  rw [List.take_append_drop] at this
  omega
def packOne (s : ByteArray) : List UInt8 := be s.size 4 ++ s.data.toList
def packL (L : List ByteArray) : List UInt8 := L.flatMap packOne
theorem packL_snoc (L : List ByteArray) (k : Nat) (h : k < L.length) : packL (L.take (k + 1)) = packL (L.take k) ++ packOne L[k] := by
  rw [List.take_succ_eq_append_getElem h, packL, List.flatMap_append]
  simp only [List.flatMap_cons, List.flatMap_nil, List.append_nil]
  rfl
theorem packOne_length (s : ByteArray) : (packOne s).length = 4 + s.size := by simp [packOne, be_length]
theorem packL_length (L : List ByteArray) : (packL L).length = tot L := by
  induction L with
  | nil => rfl
  | cons a r ih =>
    have : packL (a :: r) = packOne a ++ packL r := rfl
    rw [this, List.length_append, packOne_length, ih, tot]

set_option maxHeartbeats 800000 in
theorem pack_any (a : Option Addr) (L : List ByteArray) (cap : Nat) (w : World) (hr : tot L ≤ 281474976710656 / 4) (hs : Strs w a L) :
    Calls Try.prog 81 #[.slice a L.length cap] w fun e w' => ∃ v', e = .returned v' ∧ Own w' w.heap.size v' (packL L) ∧ Below w.heap.size w w' := by
  obtain ⟨i0, hi, hz0, hz1, hz2⟩ := info_parts info5
  have hll : L.length ≤ tot L := by
    clear hr hs
    induction L with
    | nil => simp [tot]
    | cons x r ih => simp only [List.length_cons, tot]; omega
  have hm : i0.bytes * tot L ≤ 281474976710656 := by rw [hz2]; omega
  go_enter Try.func81, Try.ntmps81
  go_wp2
  go_loop [3, 11] (fun n i => ∃ k : Nat, k ≤ L.length ∧ i = .int .i64 k ∧ n = .int .i64 (tot (L.take k) : Nat)) (fun _ i => L.length - (intOf i).toNat)
  case atStart => exact ⟨0, Nat.zero_le _, rfl, rfl⟩
  case round =>
    obtain ⟨k, hk, rfl, rfl⟩ := hrel
    have htk := tot_take L k
    by_cases hlt : k < L.length
    · obtain ⟨b, off, rfl, hbl, hcs⟩ := hs.at hlt
      have hcell : w.cell? ⟨b, off + k, none⟩ = some (.string L[k]) := hcs k hlt
      have HS : Hid (tot (L.take (k + 1)) = tot (L.take k) + (4 + L[k].size)) := tot_snoc L k hlt
      have ht2 : tot (L.take k) + (4 + L[k].size) ≤ tot L := by rw [← HS.out]; exact tot_take L (k + 1)
      go_wp2
      go_round
      case rel => exact ⟨k + 1, by omega, by go_num, by rw [HS.out]; go_num⟩
      case measure => simp [intOf]; omega
    · have hkl : k = L.length := by omega
      subst hkl
      rw [List.take_length]
      clear htk hlt hk
      go_wp2_with (at_make; refine wpList_make_own _ rfl _ _ 50 rfl w.heap.size 5 i0 (.int .u8 0) 1 Try.underlying50 hi hz0 hz1 _ _ _ (tot L) rfl rfl (by omega) hm (by unfold maxLen; omega) (Nat.le_refl _) ?_; intro w0 hown0 hgrow0)
      go_loopw [6, 25] (fun v i wr => ∃ k : Nat, k ≤ L.length ∧ i = .int .i64 k ∧ Own wr w.heap.size v (packL (L.take k)) ∧ Below w.heap.size w wr)
        (fun _ i _ => L.length - (intOf i).toNat)
      case atStart => exact ⟨0, Nat.zero_le _, rfl, hown0, (Below.refl _ _).grown hgrow0 (Nat.le_refl _) (by simp)⟩
      case round =>
        obtain ⟨k, hk, rfl, hown, hnx⟩ := hrel
        have hsz := hnx.size
        have htk := tot_take L k
        clear hown0 hgrow0
        by_cases hlt : k < L.length
        · obtain ⟨b, off, rfl, hbl, hcs⟩ := hs.at hlt
          have hcell : wr.cell? ⟨b, off + k, none⟩ = some (.string L[k]) := (hnx.cell (p := ⟨b, off + k, none⟩) hbl).trans (hcs k hlt)
          have HS : Hid (tot (L.take (k + 1)) = tot (L.take k) + (4 + L[k].size)) := tot_snoc L k hlt
          have ht2 : tot (L.take k) + (4 + L[k].size) ≤ tot L := by rw [← HS.out]; exact tot_take L (k + 1)
          go_wp2_with (first
            | (go_at_call 96; refine (appendNumber_any w.heap.size _ (packL (L.take k)) L[k].size 4 _ hown hsz (by omega) (by rw [packL_length]; omega) (by omega)).mono ?_; rintro e w1 ⟨v1, rfl, ho1, hb1⟩)
            | (at_builtin; refine Lib.wpList_append_own_string _ rfl (.tmp 34) (.tmp 35) 50 9 rfl w.heap.size 5 i0 Try.underlying50 Try.underlying9 hi hz0 hz1 hz2 _ _ _ rfl ho1 L[k] rfl ?c1 ?c2 ?c3 ?_))
          case c1 => simp only [List.length_append, packL_length, be_length]; unfold maxLen; omega
          case c2 => simp only [List.length_append, packL_length, be_length]; omega
          case c3 => have := hb1.size; omega
          intro v2 w2 hown2 hgrow2 _
          have R : Own w2 w.heap.size v2 (packL (L.take (k + 1))) := by
            have e : packL (L.take (k + 1)) = packL (L.take k) ++ be L[k].size 4 ++ L[k].data.toList := by rw [packL_snoc L k hlt, packOne, List.append_assoc]
            have e2 : (packL (L.take k) ++ be L[k].size 4 ++ L[k].data.toList).length = (packL (L.take k)).length + (be L[k].size 4).length + L[k].size := by rw [List.length_append, List.length_append]; simp
            unfold Own
            rw [e, e2, bcs_append]
            exact hown2
          have hbl2 : Below w.heap.size w w2 := (hnx.trans hb1).grown hgrow2 (by have := hb1.size; omega) (fun j hj => (World.ownsRow.lt ho1 j hj).1)
          clear hown2 hgrow2 ho1
          go_wp2
          go_roundw
          case rel => exact ⟨k + 1, by omega, by go_num, R, hbl2⟩
          case measure => simp [intOf]; omega
        · have hkl : k = L.length := by omega
          subst hkl
          rw [List.take_length] at hown
          go_wp2
          go_ret
          exact ⟨_, rfl, hown, hnx⟩
end Go.Proofs.Ytecljiefljgfmaa
