/-
  Package blob's Read by its contract.
-/
import Derived.Test.YtpmjkgpmidejoaaBlobU
namespace Go.Proofs.Ytpmjkgpmidejoaa
open Go.RowKit
open Al (Spc Kep turnB putB)

/-- The units from the i-th on, as Read goes over them: the error, or the bytes. -/
def rdGo (M : D) (base off n : Nat) : Nat → Nat → List UInt8 → Int × List UInt8
  | 0, _, acc => (0, acc)
  | f + 1, i, acc => if min (off + n - 252 * i) 252 ≤ off - 252 * i then rdGo M base off n f (i + 1) acc
    else if unE M (base + i) ≠ 0 then (unE M (base + i), [])
    else rdGo M base off n f (i + 1) (acc ++ ((unL M (base + i)).drop (off - 252 * i)).take (min (off + n - 252 * i) 252 - (off - 252 * i)))
/-- What Read tells. -/
def rdF (M : D) (L : List Bool) (fr : Nat) (st sz off n : Int) : Int × List UInt8 :=
  if giveR L st sz = true ∧ 0 ≤ off ∧ 0 ≤ n ∧ n ≤ sz - off then rdGo M (fr + st.toNat) off.toNat n.toNat (nsec sz.toNat) 0 [] else (1, [])

/-- A Ref whose units are all taken. -/
theorem giveR_nat {L : List Bool} {st sz : Int} (h : giveR L st sz = true) : ∃ S Z : Nat, st = (S : Int) ∧ sz = (Z : Int) ∧ S + nsec Z ≤ max L.length 0 ∧ (∀ i, i < nsec Z → L[S + i]? = some true) := by
  unfold giveR at h
  rw [Bool.or_eq_true] at h
  rcases h with h | h
  · simp at h
    obtain ⟨rfl, rfl⟩ := h
    exact ⟨0, 0, rfl, rfl, by simp [nsec], fun i hi => by simp [nsec] at hi⟩
  · obtain ⟨h1, h2, h3, h4⟩ := Al.turnB_iff.1 h
    have h5 : 0 < sz := by
      unfold secI at h2
      split at h2 <;> omega
    obtain ⟨S, rfl⟩ : ∃ S : Nat, st = (S : Int) := ⟨st.toNat, by omega⟩
    obtain ⟨Z, rfl⟩ : ∃ Z : Nat, sz = (Z : Int) := ⟨sz.toNat, by omega⟩
    rw [secI_nat] at h3 h4
    exact ⟨S, Z, rfl, rfl, by omega, by simpa [Al.allB] using h4⟩

set_option maxHeartbeats 4000000 in
set_option maxRecDepth 100000 in
theorem bread_arg (w : World) (b d s fr : Nat) (F : Nat → Prop) (M : D) (L : List Bool) (h : St w b d s fr F M L) (st sz off n : Int) (h1 : st ≤ 9223372036854775807) (h2 : sz ≤ 9223372036854775807) (h3 : off ≤ 9223372036854775807) (h4 : n ≤ 9223372036854775807)
    (hbad : ¬ (giveR L st sz = true ∧ 0 ≤ off ∧ 0 ≤ n ∧ n ≤ sz - off)) :
    Calls Try.prog 15 #[.pointer (some ⟨b, 0, none⟩), rv st sz, .int .i64 off, .int .i64 n] w fun e w' => e = .returned (.tuple #[.slice none 0 0, .int .i64 1]) ∧ Below w.heap.size w w' := by
  have hA : Below w.heap.size w (w.alloc (.cells #[.int .i64 st, .int .i64 sz] 40)) := (Below.refl _ w).alloc (Nat.le_refl _) _
  have hh := holds_any (w.alloc (.cells #[.int .i64 st, .int .i64 sz] 40)) b d s fr L st sz (h.blb.below hA) (h.sp.below hA) h1 h2
  have HB : Hid (∀ w1, Below (w.alloc (.cells #[.int .i64 st, .int .i64 sz] 40)).heap.size (w.alloc (.cells #[.int .i64 st, .int .i64 sz] 40)) w1 → Below w.heap.size w w1 ∧ w1.cell? ⟨w.heap.size, 1, none⟩ = some (.int .i64 sz)) := fun w1 q => ⟨hA.trans (q.mono (by simp)), (q.cell (p := ⟨w.heap.size, 1, none⟩) (by simp)).trans (cell_blk (heap_alloc_new w _) 1)⟩
  have HG := fun hg => @giveR_nat L st sz hg
  obtain ⟨g, hg⟩ : ∃ g, g = giveR L st sz := ⟨_, rfl⟩
  rw [← hg] at hh hbad HG
  clear h hA hg
  cases g with
  | false =>
    clear hbad HG
    go_enter Try.func15, Try.ntmps15
    go_wp2_with (go_at_call 49; refine Calls.mono hh ?_; rintro e w1 ⟨rfl, q1⟩; obtain ⟨q2, q3⟩ := HB.out w1 q1)
    go_ret2
    exact ⟨rfl, q2⟩
  | true =>
    obtain ⟨S, Z, rfl, rfl, -, -⟩ := HG rfl
    clear HG
    by_cases o0 : off < 0
    · clear hbad
      go_enter Try.func15, Try.ntmps15
      go_wp2_with (go_at_call 49; refine Calls.mono hh ?_; rintro e w1 ⟨rfl, q1⟩; obtain ⟨q2, q3⟩ := HB.out w1 q1)
      go_ret2
      exact ⟨rfl, q2⟩
    · by_cases n0 : n < 0
      · clear hbad
        go_enter Try.func15, Try.ntmps15
        go_wp2_with (go_at_call 49; refine Calls.mono hh ?_; rintro e w1 ⟨rfl, q1⟩; obtain ⟨q2, q3⟩ := HB.out w1 q1)
        go_ret2
        exact ⟨rfl, q2⟩
      · have hgt : n > (Z : Int) - off := by
          apply Classical.byContradiction
          intro hc
          exact hbad ⟨rfl, by omega, by omega, by omega⟩
        clear hbad
        go_enter Try.func15, Try.ntmps15
        go_wp2_with (go_at_call 49; refine Calls.mono hh ?_; rintro e w1 ⟨rfl, q1⟩; obtain ⟨q2, q3⟩ := HB.out w1 q1)
        go_ret2
        exact ⟨rfl, q2⟩
end Go.Proofs.Ytpmjkgpmidejoaa
