/-
  BlobRoom walked.
-/
import Derived.Test.YtpmjkgpmidejoaaRun23
import Derived.Deep.Slices
import Derived.Deep.Grids
namespace Go.Proofs.Ytpmjkgpmidejoaa
open Go.RowKit

/-- A slice of slices of bytes that came in, told by lists. -/
def Rbs (w : World) (a : Option Addr) (L : List (List UInt8)) : Prop :=
  L = [] ∨ ∃ b off, a = some ⟨b, off, none⟩ ∧ b < w.heap.size ∧ ∀ j (h : j < L.length), ∃ a' c, w.cell? ⟨b, off + j, none⟩ = some (.slice a' L[j].length c) ∧ Bytes w a' L[j] ∧ L[j].length ≤ c ∧ (a' = none → c = 0) ∧ L[j].length ≤ 9223372036854775807
theorem Rbs.at {w : World} {a : Option Addr} {L : List (List UInt8)} (h : Rbs w a L) {j : Nat} (hj : j < L.length) : ∃ b off a' c, a = some ⟨b, off, none⟩ ∧ (∀ w', Below w.heap.size w w' → w'.cell? ⟨b, off + j, none⟩ = some (.slice a' L[j].length c)) ∧ Bytes w a' L[j] ∧ L[j].length ≤ c ∧ (a' = none → c = 0) ∧ L[j].length ≤ 9223372036854775807 := by
  rcases h with h0 | ⟨b, off, rfl, hb, hc⟩
  · rw [h0] at hj; simp at hj
  · obtain ⟨a', c, h1, h2⟩ := hc j hj
    exact ⟨b, off, a', c, rfl, fun w' hw => (hw.cell (p := ⟨b, off + j, none⟩) hb).trans h1, h2⟩
theorem Bytes.lt {w : World} {a : Option Addr} {l : List UInt8} (h : Bytes w a l) (hne : l ≠ []) (ad : Addr) (e : a = some ad) : ad.block < w.heap.size := by
  rcases h with h3 | ⟨b3, o3, e3, h4, _⟩
  · exact absurd h3 hne
  · rw [e3] at e
    simp only [Option.some.injEq] at e
    subst e
    exact h4

/-- What a Write does where the taken units lie ahead. -/
theorem ri_write {w wr : World} {b d s fr u v : Nat} {M : D} {rs : List (Nat × Nat)} {rv0 : Value} (h : RI w b d s fr M (pre u v) rs rv0 wr) (hM : Calm M) (hin : fr + (u + v) ≤ M.S.length) (hfr : fr ≤ 4096) (a : Option Addr) (l : List UInt8) (cap : Nat) (hb : Bytes wr a l) (hab : l ≠ [] → ∀ ad, a = some ad → ad.block < w.heap.size) (hcap : l.length ≤ cap) (hlm : l.length ≤ 9223372036854775807) :
    Calls Try.prog 13 #[.pointer (some ⟨b, 0, none⟩), .slice a l.length cap] wr fun e w' =>
      (l.length = 0 ∧ e = .returned (.tuple #[rv 0 0, .int .i64 0]) ∧ RI w b d s fr M (pre u v) rs rv0 w') ∨
      (l.length ≠ 0 ∧ nsec l.length ≤ v ∧ e = .returned (.tuple #[rv (u : Int) (l.length : Int), .int .i64 0]) ∧ RI w b d s fr (putD M (fr + u) l) (pre (u + nsec l.length) (v - nsec l.length)) rs rv0 w') ∨
      (l.length ≠ 0 ∧ v < nsec l.length ∧ e = .returned (.tuple #[rv 0 0, .int .i64 60]) ∧ RI w b d s fr M (pre u v) rs rv0 w') := by
  refine (bl_write w wr _ b d s fr M (pre u v) h.bl a l cap hb (fun hne ad e => .inl (hab hne ad e)) hcap hlm (by rw [hM.c]; simp) hfr).mono ?_
  rintro e w' ⟨rfl, q1, q2⟩
  have e1 := wr_pre (u := u) (v := v) (fr := fr) l hM hin
  by_cases h0 : l.length = 0
  · rw [if_pos h0] at e1
    rw [e1] at q1 ⊢
    exact .inl ⟨h0, rfl, h.step q1 q2⟩
  · rw [if_neg h0] at e1
    by_cases h1 : nsec l.length ≤ v
    · rw [if_pos h1] at e1
      rw [e1] at q1 ⊢
      exact .inr (.inl ⟨h0, h1, rfl, h.step q1 q2⟩)
    · rw [if_neg h1] at e1
      rw [e1] at q1 ⊢
      exact .inr (.inr ⟨h0, by omega, rfl, h.step q1 q2⟩)
end Go.Proofs.Ytpmjkgpmidejoaa
/-
  Slices of slices of bytes that came in, told by lists.
-/
namespace Go.Proofs.Ytpmjkgpmidejoaa
open Go.ChangeShapes Go.WideShapes Go.ChangeAt Go.RowKit

theorem cells38 : Try.prog.cellsOf 38 = 1 := by kernel_rfl
theorem row_of {H : Type} {enc : TypeId × Value → H} {W : World} {n : Nat} {v : Value} {d : DataW H} {pl : List MemPlace} (h : DataW.trod enc Try.prog W 0 (fun _ => true) true n 38 [v] = some (d, pl)) :
    ∃ l : List UInt8, ∃ a c, v = .slice a l.length c ∧ Bytes W a l ∧ l.length ≤ c ∧ (a = none → c = 0) ∧ l.length ≤ 9223372036854775807 := by
  rcases open_ints Try.underlying38 Try.underlying5 cells5 h with ⟨hcs, hd⟩ | ⟨x, l, c, zs, hcs, _, hl, hm, hz, hd, hcell, hwz⟩
  · have e : v = .slice none 0 0 := by simpa using hcs
    subst e
    exact ⟨[], none, 0, rfl, .inl rfl, by simp, fun _ => rfl, by simp⟩
  · have e : v = .slice (some x) l c := by simpa using hcs
    subst e
    have hz' : zs.length = c := by simpa using hz
    obtain ⟨m, e, hb⟩ := bytes_of_ints hl hz' hcell hwz
    subst e
    exact ⟨m, some x, c, rfl, hb, hl, (by intro h; cases h), by unfold maxLen at hm; omega⟩
theorem open_rows {H : Type} {enc : TypeId × Value → H} {W : World} {fuel : Nat} {a1 : Option Addr} {len1 cap1 : Nat} {d : DataW H} {p : List MemPlace} (h : DataW.trod enc Try.prog W 0 (fun _ => true) true fuel 71 [.slice a1 len1 cap1] = some (d, p)) :
    ∃ L : List (List UInt8), L.length = len1 ∧ Rbs W a1 L ∧ L.length ≤ 9223372036854775807 := by
  rcases Go.Deep.open_slice1 Try.underlying71 cells38 h with ⟨hcs, _⟩ | ⟨x, len, cap, m, n, V, D, Pl, hcs, _, hlc, hcm, hm, hd, hrow⟩
  · simp at hcs
    obtain ⟨rfl, rfl, rfl⟩ := hcs
    exact ⟨[], rfl, .inl rfl, by simp⟩
  · simp at hcs
    obtain ⟨rfl, rfl, rfl⟩ := hcs
    have hm' : m = cap1 := by simpa using hm
    subst hm'
    obtain ⟨F, hF⟩ := Go.Deep.choose_lt (α := List UInt8) (p := fun i l => ∃ a c, V i = .slice a l.length c ∧ Bytes W a l ∧ l.length ≤ c ∧ (a = none → c = 0) ∧ l.length ≤ 9223372036854775807) (n := len1) (fun i hi => row_of (hrow i (by omega)).2)
    refine ⟨(List.range len1).map F, by simp, ?_, by unfold maxLen at hcm; simp; omega⟩
    by_cases h0 : len1 = 0
    · subst h0; exact .inl rfl
    · obtain ⟨b, off, spot⟩ := x
      have hc0 := (hrow 0 (by omega)).1
      have hspot : spot = none := by simpa [Addr.add] using World.cell?_spot hc0
      subst hspot
      refine .inr ⟨b, off, rfl, ?_, fun j hj => ?_⟩
      · have := block_lt_of_cell hc0
        simpa [Addr.add] using this
      · have hj' : j < len1 := by simpa using hj
        obtain ⟨a, c, hv, hby, hle, hno, hmx⟩ := hF j hj'
        have hcell := (hrow j (by omega)).1
        rw [Addr.add_lit, hv] at hcell
        have e : ((List.range len1).map F)[j] = F j := by simp
        rw [e]
        exact ⟨a, c, hcell, hby, hle, hno, hmx⟩
end Go.Proofs.Ytpmjkgpmidejoaa
