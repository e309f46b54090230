/-
  What Write does, told plainly: the units that are taken, the sectors that are laid.
-/
import Derived.Test.YtpmjkgpmidejoaaSealAll
import Derived.Test.YtpmjkgpmidejoaaAlBackM
namespace Go.Proofs.Ytpmjkgpmidejoaa
open Go.RowKit
open Al (takeF putB allB turnB)

/-- The units that hold the data. -/
def unitB (l : List UInt8) (j : Nat) : ByteArray := ⟨(sealL (pcL l j)).toArray⟩
def unitsL (l : List UInt8) : List ByteArray := (List.range (nsec l.length)).map (unitB l)
theorem sealsL_part (l : List UInt8) : ∀ (K j : Nat), j < K → ((sealsL l K).drop (256 * j)).take 256 = sealL (pcL l j)
  | 0, _, h => by omega
  | K + 1, j, h => by
    have hl := sealsL_length l K
    have hs : (sealL (pcL l K)).length = 256 := sealL_length (by rw [pcL_length]; omega)
    rw [sealsL_succ]
    by_cases e : j = K
    · subst e
      rw [List.drop_append_of_le_length (by omega), List.drop_of_length_le (by omega), List.nil_append, List.take_of_length_le (by omega)]
    · rw [List.drop_append_of_le_length (by omega), List.take_append_of_le_length (by rw [List.length_drop]; omega)]
      exact sealsL_part l K j (by omega)
theorem psecs_units (l : List UInt8) : psecs (sealsL l (nsec l.length)) = unitsL l := by
  have hl := sealsL_length l (nsec l.length)
  have hs : sect (sealsL l (nsec l.length)).length = nsec l.length := by rw [hl]; unfold sect; omega
  have hp : padTo (sealsL l (nsec l.length)) = sealsL l (nsec l.length) := by
    rw [padTo, hs, hl, Nat.sub_self]
    simp
  rw [psecs, hs, hp, fsecs, unitsL]
  apply List.map_congr_left
  intro j hj
  rw [List.mem_range] at hj
  rw [fsecB, fsec, sealsL_part _ _ _ hj, unitB]

/-- What Write tells, and what it leaves of the device and of the space. -/
def wrF (M : D) (L : List Bool) (fr : Nat) (l : List UInt8) : Int × Int × Int × D × List Bool :=
  if l.length = 0 then (0, 0, 0, M, L) else
  if (takeF L (nsec l.length : Nat)).2.1 ≠ 0 then (0, 0, (takeF L (nsec l.length : Nat)).2.1, M, L) else
  if (wrsF M (fr + (takeF L (nsec l.length : Nat)).1.toNat) (unitsL l)).1 ≠ 0 then (0, 0, (wrsF M (fr + (takeF L (nsec l.length : Nat)).1.toNat) (unitsL l)).1, (wrsF M (fr + (takeF L (nsec l.length : Nat)).1.toNat) (unitsL l)).2, L) else
  ((takeF L (nsec l.length : Nat)).1, (l.length : Int), 0, (wrsF M (fr + (takeF L (nsec l.length : Nat)).1.toNat) (unitsL l)).2, (takeF L (nsec l.length : Nat)).2.2)

theorem nsec_pos {n : Nat} (h : n ≠ 0) : 1 ≤ nsec n := by unfold nsec; omega
/-- Where Take goes well: the units that were free are taken. -/
theorem take_cases (L : List Bool) (K : Nat) (hK : 1 ≤ K) : ((takeF L (K : Int)).2.1 = 60 ∧ (takeF L (K : Int)).2.2 = L ∧ ∀ a, ¬ Al.winP L K a) ∨ ∃ X : Nat, takeF L (K : Int) = ((X : Int), 0, putB L X K true) ∧ Al.winP L K X ∧ ∀ a, a < X → ¬ Al.winP L K a := by
  unfold takeF
  rw [if_neg (by omega), Int.toNat_natCast]
  cases hx : Al.takeL K (Al.runsL L) with
  | none => exact .inl ⟨rfl, rfl, fun a => Al.take_none hK hx a⟩
  | some x => exact .inr ⟨x.1, rfl, (Al.take_some hK hx).1, (Al.take_some hK hx).2⟩
/-- Units that were taken and are given back. -/
theorem give_back {L : List Bool} {X K : Nat} (hK : 1 ≤ K) (hw : Al.winP L K X) : turnB (putB L X K true) (X : Int) (K : Int) true = true ∧ putB (putB L X K true) X K false = L :=
  ⟨Al.turnB_iff.2 ⟨by omega, by omega, by rw [Al.putB_len _ hw.1]; have := hw.1; omega, by simpa using Al.putB_all true hw.1⟩, Al.putB_back hw.1 hw.2 true⟩
end Go.Proofs.Ytpmjkgpmidejoaa
