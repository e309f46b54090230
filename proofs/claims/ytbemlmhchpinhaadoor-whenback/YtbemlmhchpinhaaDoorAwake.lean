/-
  What the document fixes: the law's awake by its contract.
-/
import Derived.Test.YtbemlmhchpinhaaDoorParse
namespace Go.Proofs.YtbemlmhchpinhaaDoor
open Go.RowKit

def awB : List UInt8 := [50, 48, 49, 51, 48, 53, 50, 52, 84, 48, 48, 48, 48, 48, 48, 90]
def awH : List UInt8 := [84, 104, 117, 44, 32, 48, 49, 32, 74, 97, 110, 32, 49, 57, 55, 48, 32, 48, 48, 58, 48, 48, 58, 48, 48, 32, 71, 77, 84]
def awI : List UInt8 := [50, 48, 49, 51, 45, 48, 53, 45, 50, 52, 84, 48, 48, 58, 48, 48, 58, 48, 48, 46, 48, 48, 48, 90]
theorem aw_day : IsDay 15849 2013 5 24 := by unfold IsDay; decide +kernel
theorem aw_day0 : IsDay 0 1970 1 1 := by unfold IsDay; decide +kernel
theorem aw_basic : basicL 1369353600 = awB := by
  have h := O_of aw_day
  unfold basicL
  rw [if_pos (by decide), show (1369353600 : Int) / 86400 = 15849 by decide, h.1, h.2.1, h.2.2]
  decide +kernel
theorem aw_iso : isoL 1369353600 = awI := by
  have h := O_of aw_day
  unfold isoL
  rw [if_pos (by decide), show (1369353600 : Int) / 86400 = 15849 by decide, h.1, h.2.1, h.2.2]
  decide +kernel
theorem aw_http : httpL 0 = awH := by
  have h := O_of aw_day0
  unfold httpL
  rw [if_pos (by decide), show (0 : Int) / 86400 = 0 by decide, h.1, h.2.1, h.2.2]
  decide +kernel
theorem aw_pb : pbB awB = true ∧ pbN awB = 1369353600 := by
  have h1 : bB awB = true := by decide +kernel
  have h2 : bT awB = 1369353600 := by decide +kernel
  have h3 : pbB awB = true := by
    unfold pbB
    rw [h1, h2, aw_basic]
    decide +kernel
  exact ⟨h3, by unfold pbN; rw [if_pos h3, h2]⟩

theorem awake_any (w : World) (hTab : Tab w) :
    Calls Tryd.prog 8 #[] w fun e w' => e = .returned (.bool true) ∧ Below w.heap.size w w' := by
  have C1 : Hid (∀ wx, Tab wx → Calls Tryd.prog 21 #[.string ⟨#[50, 48, 49, 51, 48, 53, 50, 52, 84, 48, 48, 48, 48, 48, 48, 90]⟩] wx fun e w' => e = .returned (.tuple #[.int .i64 1369353600, .bool true]) ∧ Below wx.heap.size wx w') := by
    intro wx hx
    have h := parseBasic_any ⟨#[50, 48, 49, 51, 48, 53, 50, 52, 84, 48, 48, 48, 48, 48, 48, 90]⟩ wx hx
    have e : (⟨#[50, 48, 49, 51, 48, 53, 50, 52, 84, 48, 48, 48, 48, 48, 48, 90]⟩ : ByteArray).data.toList = awB := rfl
    rw [e, aw_pb.1, aw_pb.2] at h
    exact h
  have C2 : Hid (∀ wx, Tab wx → Calls Tryd.prog 19 #[.int .i64 0] wx fun e w' => e = .returned (.string ⟨#[84, 104, 117, 44, 32, 48, 49, 32, 74, 97, 110, 32, 49, 57, 55, 48, 32, 48, 48, 58, 48, 48, 58, 48, 48, 32, 71, 77, 84]⟩) ∧ Below wx.heap.size wx w') := by
    intro wx hx
    have h := http_any 0 wx hx
    rw [aw_http] at h
    exact h
  have C3 : Hid (∀ wx, Tab wx → Calls Tryd.prog 17 #[.int .i64 1369353600] wx fun e w' => e = .returned (.string ⟨#[50, 48, 49, 51, 45, 48, 53, 45, 50, 52, 84, 48, 48, 58, 48, 48, 58, 48, 48, 46, 48, 48, 48, 90]⟩) ∧ Below wx.heap.size wx w') := by
    intro wx hx
    have h := iso_any 1369353600 wx hx
    rw [aw_iso] at h
    exact h
  go_enter Tryd.func8, Tryd.ntmps8
  go_wp2_with fail
  refine (C1.out _ hTab).mono ?_
  rintro e w1 ⟨rfl, hb1⟩
  have T1 := hTab.below hb1
  go_wp2_with fail
  refine (C2.out _ T1).mono ?_
  rintro e w2 ⟨rfl, hb2⟩
  have T2 := T1.below hb2
  have B2 := step_below hb1 hb2 (Nat.le_refl _)
  clear hb1 hb2
  go_wp2_with fail
  refine (C3.out _ T2).mono ?_
  rintro e w3 ⟨rfl, hb3⟩
  have B3 := step_below B2 hb3 (Nat.le_refl _)
  clear B2 hb3
  go_wp2
  go_ret
  exact ⟨rfl, B3⟩
end Go.Proofs.YtbemlmhchpinhaaDoor
