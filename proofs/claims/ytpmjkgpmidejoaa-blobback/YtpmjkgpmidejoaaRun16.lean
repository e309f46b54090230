/-
  Plain mathematics of Take: what goes well, what is left.
-/
import Derived.Test.YtpmjkgpmidejoaaRun14
import Derived.Test.YtpmjkgpmidejoaaRun15
namespace Go.Proofs.Ytpmjkgpmidejoaa.Al
open Go.RowKit

theorem putB_same {L : List Bool} {a k : Nat} {t : Bool} (h : a + k ≤ L.length) (ha : allB L a k t) : putB L a k t = L := by
  apply List.ext_getElem?
  intro i
  rw [putB_get t h]
  by_cases h1 : a ≤ i ∧ i < a + k
  · rw [if_pos h1]
    have := ha (i - a) (by omega)
    rw [show a + (i - a) = i from by omega] at this
    exact this.symm
  · rw [if_neg h1]
def mxR (xs : List (Nat × Nat)) : Nat := xs.foldl (fun m x => max m x.2) 0
theorem mxR_snoc (xs : List (Nat × Nat)) (x : Nat × Nat) : mxR (xs ++ [x]) = max (mxR xs) x.2 := by simp [mxR]
theorem mx_iff (k : Nat) : ∀ (xs : List (Nat × Nat)) (m : Nat), k ≤ xs.foldl (fun m x => max m x.2) m ↔ k ≤ m ∨ ∃ x ∈ xs, k ≤ x.2
  | [], m => by simp
  | x :: r, m => by
    rw [List.foldl_cons, mx_iff k r]
    constructor
    · rintro (h | ⟨y, h1, h2⟩)
      · rcases Nat.le_total m x.2 with h3 | h3
        · rw [Nat.max_eq_right h3] at h; exact .inr ⟨x, List.mem_cons_self, h⟩
        · rw [Nat.max_eq_left h3] at h; exact .inl h
      · exact .inr ⟨y, List.mem_cons_of_mem _ h1, h2⟩
    · rintro (h | ⟨y, h1, h2⟩)
      · exact .inl (Nat.le_trans h (Nat.le_max_left _ _))
      · rcases List.mem_cons.1 h1 with rfl | h1
        · exact .inl (Nat.le_trans h2 (Nat.le_max_right _ _))
        · exact .inr ⟨y, h1, h2⟩
theorem take_iff {k : Nat} (hk : 1 ≤ k) (xs : List (Nat × Nat)) : (takeL k xs).isSome = true ↔ k ≤ mxR xs := by
  rw [takeL, List.find?_isSome, mxR, mx_iff]
  constructor
  · rintro ⟨x, h1, h2⟩; exact .inr ⟨x, h1, by simpa using h2⟩
  · rintro (h | ⟨x, h1, h2⟩)
    · omega
    · exact ⟨x, h1, by simpa using h2⟩
theorem mx_le {L : List Bool} : mxR (runsL L) ≤ L.length := by
  rcases Nat.lt_or_ge 0 (mxR (runsL L)) with h | h
  · have h1 : mxR (runsL L) ≤ mxR (runsL L) := Nat.le_refl _
    rw [mxR] at h1
    rcases (mx_iff _ _ _).1 h1 with h2 | ⟨x, h2, h3⟩
    · rw [mxR] at h; omega
    · have := (runs_mem h2).2.1
      rw [mxR]
      omega
  · omega
theorem count_put {L : List Bool} {a k : Nat} (h : a + k ≤ L.length) (ha : allB L a k false) : (putB L a k true).count false + k = L.count false := by
  have e : L = L.take a ++ List.replicate k false ++ L.drop (a + k) := (putB_same h ha).symm
  have e2 : L.count false = (L.take a ++ List.replicate k false ++ L.drop (a + k)).count false := by rw [← e]
  rw [e2, putB]
  simp only [List.count_append, List.count_replicate]
  simp
  omega
/-- What Take leaves, for the law: the answer, the count, and what Give makes of it. -/
theorem back_cases (L : List Bool) (k : Int) : ((takeF L k).2.1 ≠ 0 ∧ (takeF L k).2.2 = L ∧ ¬ (1 ≤ k ∧ k ≤ (mxR (runsL L) : Int))) ∨
    ∃ X K : Nat, k = (K : Int) ∧ 1 ≤ K ∧ K ≤ mxR (runsL L) ∧ (takeF L k).1 = (X : Int) ∧ (takeF L k).2.1 = 0 ∧ winP L K X ∧ (takeF L k).2.2 = putB L X K true := by
  by_cases hk : k < 1
  · left
    rw [takeF, if_pos hk]
    exact ⟨by show (1 : Int) ≠ 0; decide, rfl, by omega⟩
  · obtain ⟨K, rfl⟩ : ∃ K : Nat, k = (K : Int) := ⟨k.toNat, by omega⟩
    have hi := take_iff (k := K) (by omega) (runsL L)
    rw [takeF, if_neg hk]
    cases hx : takeL (K : Int).toNat (runsL L) with
    | none =>
      have hx' : takeL K (runsL L) = none := by simpa using hx
      rw [hx'] at hi
      exact .inl ⟨by show (60 : Int) ≠ 0; decide, rfl, fun h => by have := hi.2 (by omega); simp at this⟩
    | some x =>
      have hx' : takeL K (runsL L) = some x := by simpa using hx
      rw [hx'] at hi
      exact .inr ⟨x.1, K, rfl, by omega, hi.1 rfl, rfl, rfl, (take_some (by omega) hx').1, rfl⟩
theorem drewN_kep (K : Nat → Prop) (W : World) (n : Nat) : Kep K W (W.drewN n) := ⟨rfl, rfl, rfl, Nat.le_refl _, fun _ _ _ => rfl⟩
theorem turn_len {L : List Bool} {s k : Int} {t u : Bool} : (if turnB L s k t then putB L s.toNat k.toNat u else L).length = L.length := by
  by_cases h : turnB L s k t = true
  · rw [if_pos h]
    obtain ⟨h1, h2, h3, _⟩ := turnB_iff.1 h
    exact putB_len _ (by omega)
  · rw [if_neg h]
end Go.Proofs.Ytpmjkgpmidejoaa.Al
/-
  What Write does, told plainly: the units that are taken, the sectors that are laid.
-/
namespace Go.Proofs.Ytpmjkgpmidejoaa
open Go.RowKit
open Al (takeF putB allB turnB)

/-- The units that hold the data. -/
def unitB (l : List UInt8) (j : Nat) : ByteArray := ⟨(sealL (pcL l j)).toArray⟩
def unitsL (l : List UInt8) : List ByteArray := (List.range (nsec l.length)).map (unitB l)
theorem sealsL_part (l : List UInt8) : ∀ (K j : Nat), j < K → ((sealsL l K).drop (256 * j)).take 256 = sealL (pcL l j)
  | 0, _, h => by omega
  | K + 1, j, h => by
    have hl := sealsL_length l K
    have hs : (sealL (pcL l K)).length = 256 := sealL_length (by rw [pcL_length]; omega)
    rw [sealsL_succ]
    by_cases e : j = K
    · subst e
      rw [List.drop_append_of_le_length (by omega), List.drop_of_length_le (by omega), List.nil_append, List.take_of_length_le (by omega)]
    · rw [List.drop_append_of_le_length (by omega), List.take_append_of_le_length (by rw [List.length_drop]; omega)]
      exact sealsL_part l K j (by omega)
theorem psecs_units (l : List UInt8) : psecs (sealsL l (nsec l.length)) = unitsL l := by
  have hl := sealsL_length l (nsec l.length)
  have hs : sect (sealsL l (nsec l.length)).length = nsec l.length := by rw [hl]; unfold sect; omega
  have hp : padTo (sealsL l (nsec l.length)) = sealsL l (nsec l.length) := by
    rw [padTo, hs, hl, Nat.sub_self]
    simp
  rw [psecs, hs, hp, fsecs, unitsL]
  apply List.map_congr_left
  intro j hj
  rw [List.mem_range] at hj
  rw [fsecB, fsec, sealsL_part _ _ _ hj, unitB]

/-- What Write tells, and what it leaves of the device and of the space. -/
def wrF (M : D) (L : List Bool) (fr : Nat) (l : List UInt8) : Int × Int × Int × D × List Bool :=
  if l.length = 0 then (0, 0, 0, M, L) else
  if (takeF L (nsec l.length : Nat)).2.1 ≠ 0 then (0, 0, (takeF L (nsec l.length : Nat)).2.1, M, L) else
  if (wrsF M (fr + (takeF L (nsec l.length : Nat)).1.toNat) (unitsL l)).1 ≠ 0 then (0, 0, (wrsF M (fr + (takeF L (nsec l.length : Nat)).1.toNat) (unitsL l)).1, (wrsF M (fr + (takeF L (nsec l.length : Nat)).1.toNat) (unitsL l)).2, L) else
  ((takeF L (nsec l.length : Nat)).1, (l.length : Int), 0, (wrsF M (fr + (takeF L (nsec l.length : Nat)).1.toNat) (unitsL l)).2, (takeF L (nsec l.length : Nat)).2.2)

theorem nsec_pos {n : Nat} (h : n ≠ 0) : 1 ≤ nsec n := by unfold nsec; omega
/-- Where Take goes well: the units that were free are taken. -/
theorem take_cases (L : List Bool) (K : Nat) (hK : 1 ≤ K) : ((takeF L (K : Int)).2.1 = 60 ∧ (takeF L (K : Int)).2.2 = L ∧ ∀ a, ¬ Al.winP L K a) ∨ ∃ X : Nat, takeF L (K : Int) = ((X : Int), 0, putB L X K true) ∧ Al.winP L K X ∧ ∀ a, a < X → ¬ Al.winP L K a := by
  unfold takeF
  rw [if_neg (by omega), Int.toNat_natCast]
  cases hx : Al.takeL K (Al.runsL L) with
  | none => exact .inl ⟨rfl, rfl, fun a => Al.take_none hK hx a⟩
  | some x => exact .inr ⟨x.1, rfl, (Al.take_some hK hx).1, (Al.take_some hK hx).2⟩
/-- Units that were taken and are given back. -/
theorem give_back {L : List Bool} {X K : Nat} (hK : 1 ≤ K) (hw : Al.winP L K X) : turnB (putB L X K true) (X : Int) (K : Int) true = true ∧ putB (putB L X K true) X K false = L :=
  ⟨Al.turnB_iff.2 ⟨by omega, by omega, by rw [Al.putB_len _ hw.1]; have := hw.1; omega, by simpa using Al.putB_all true hw.1⟩, Al.putB_back hw.1 hw.2 true⟩
end Go.Proofs.Ytpmjkgpmidejoaa
