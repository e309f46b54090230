/-
  A slice of slices of texts that came in, told by lists; what the bound of the second form gives.
-/
import Derived.Test.YtllmjlobhjcbkaaFrames
import Derived.Test.YtllmjlobhjcbkaaRows
import Derived.WalkKit
import Derived.ProofKit
import Derived.OpenShut
import Derived.SizedLaws
import Derived.Deep.Slices
namespace Go.Proofs.Ytllmjlobhjcbkaa
open Go.ChangeShapes Go.WideShapes Go.ChangeAt Go.RowKit

theorem cells9 : Try.prog.cellsOf 9 = 1 := by kernel_rfl
theorem cells40 : Try.prog.cellsOf 34 = 1 := by kernel_rfl
theorem ownK : ownKnob Try.prog.godebug = none := by kernel_rfl
theorem laidOut : laidOutB Try.prog = true := by kernel_rfl

theorem strs_of {W : World} {x : Addr} {len cap : Nat} {ss : List ByteArray} (hl : len ≤ cap) (hz : ss.length = cap)
    (hcell : ∀ i, i < ss.length → W.cell? (x.add i) = some (.string (ss.getD i ByteArray.empty))) :
    (ss.take len).length = len ∧ Strs W (some x) (ss.take len) := by
  refine ⟨by simp; omega, ?_⟩
  by_cases h0 : len = 0
  · subst h0
    exact .inl (by simp)
  · obtain ⟨b, off, spot⟩ := x
    have hc0 := hcell 0 (by omega)
    have hspot : spot = none := by simpa [Addr.add] using World.cell?_spot hc0
    subst hspot
    refine .inr ⟨b, off, rfl, ?_, fun j hj => ?_⟩
    · have := block_lt_of_cell hc0
      simpa [Addr.add] using this
    · have hj' : j < ss.length := by simp at hj; omega
      have := hcell j hj'
      rw [Addr.add_lit] at this
      rw [this]
      simp only [List.getElem_take]
      rw [List.getD_eq_getElem?_getD, List.getElem?_eq_getElem hj']
      rfl
theorem bulk_strs {H : Type} (L : List ByteArray) : tot L ≤ 4 * Rows.uptoBulkAll (strs (H := H) L) := by
  induction L with
  | nil => simp [tot]
  | cons s r ih =>
    have e : strs (H := H) (s :: r) = .lit (.string s.data.toList) :: strs r := rfl
    have e2 : s.data.toList.length = s.size := by simp
    rw [e, tot]
    simp only [Rows.uptoBulkAll, Rows.uptoBulk]
    omega
theorem bulk_mem {H : Type} {l : List (DataW H)} {d : DataW H} (h : d ∈ l) : Rows.uptoBulk d ≤ Rows.uptoBulkAll l := by
  induction l with
  | nil => simp at h
  | cons a r ih =>
    simp only [Rows.uptoBulkAll]
    rcases List.mem_cons.1 h with rfl | h
    · omega
    · have := ih h
      omega

/-- One list of texts. -/
theorem open_texts {H : Type} {enc : TypeId × Value → H} {W : World} {fuel : Nat} {v : Value} {d : DataW H} {p : List MemPlace} (h : DataW.trod enc Try.prog W 0 (fun _ => true) true fuel 34 [v] = some (d, p)) (hb : Rows.uptoBulk d ≤ 1048576) :
    ∃ (a : Option Addr) (L : List ByteArray) (c : Nat), v = .slice a L.length c ∧ Strs W a L ∧ tot L ≤ 8388608 := by
  rcases open_strings Try.underlying34 Try.underlying9 cells9 h with ⟨hcs, _⟩ | ⟨x, len, c, ss, hcs, _, hl, hm, hz, hd, hcell, hws⟩
  · simp at hcs
    exact ⟨none, [], 0, hcs, .inl rfl, by simp [tot]⟩
  · simp at hcs
    have hz' : ss.length = c := by simpa using hz
    obtain ⟨e1, e2⟩ := strs_of hl hz' hcell
    refine ⟨some x, ss.take len, c, by rw [e1, hcs], e2, ?_⟩
    have hd0 : d = .slice (strs (ss.take len)) (strs (ss.drop len)) := (Prod.mk.inj hd).1
    have hbb := bulk_strs (H := H) (ss.take len)
    rw [hd0] at hb
    simp only [Rows.uptoBulk] at hb
    omega

/-- A list of such lists. -/
theorem open_lists {H : Type} {enc : TypeId × Value → H} {W : World} {fuel : Nat} {v : Value} {d : DataW H} {p : List MemPlace} (h : DataW.trod enc Try.prog W 0 (fun _ => true) true fuel 22 [v] = some (d, p)) (hb : Rows.uptoBulk d ≤ 1048576) :
    ∃ (a : Option Addr) (LL : List (List ByteArray)) (c : Nat), v = .slice a LL.length c ∧ Rfs W a LL ∧ ∀ L ∈ LL, tot L ≤ 8388608 := by
  rcases Deep.open_slice1 Try.underlying22 cells40 h with ⟨hcs, _⟩ | ⟨x, len, cap, m, n, V, D, Pl, hcs, _, hl, hm, hmm, hx, hall⟩
  · simp at hcs
    exact ⟨none, [], 0, hcs, .inl rfl, by simp⟩
  · simp at hcs
    simp only [if_true] at hmm
    subst hmm
    have hd : d = .slice ((List.range len).map D) ((List.range (m - len)).map fun j => D (len + j)) := (Prod.mk.inj hx).1
    rw [hd] at hb
    simp only [Rows.uptoBulk] at hb
    have hit : ∀ i, i < len → ∃ (L : List ByteArray), ∃ (a : Option Addr) (c : Nat), V i = .slice a L.length c ∧ Strs W a L ∧ tot L ≤ 8388608 := by
      intro i hi
      have hm' := bulk_mem (H := H) (l := (List.range len).map D) (d := D i) (List.mem_map.2 ⟨i, List.mem_range.2 hi, rfl⟩)
      obtain ⟨a, L, c, q1, q2, q3⟩ := open_texts (hall i (by omega)).2 (by omega)
      exact ⟨L, a, c, q1, q2, q3⟩
    obtain ⟨f, hf⟩ : ∃ f : Nat → List ByteArray, ∀ i, i < len → ∃ (a : Option Addr) (c : Nat), V i = .slice a (f i).length c ∧ Strs W a (f i) ∧ tot (f i) ≤ 8388608 :=
      ⟨fun i => if h : i < len then (hit i h).choose else [], fun i hi => by simp only [dif_pos hi]; exact (hit i hi).choose_spec⟩
    have hlen : ((List.range len).map f).length = len := by simp
    refine ⟨some x, (List.range len).map f, m, by rw [hlen, hcs], ?_, ?_⟩
    · by_cases h0 : len = 0
      · subst h0
        exact .inl (by simp)
      · obtain ⟨b, off, spot⟩ := x
        have hc0 := (hall 0 (by omega)).1
        have hspot : spot = none := by simpa [Addr.add] using World.cell?_spot hc0
        subst hspot
        refine .inr ⟨b, off, rfl, ?_, fun j hj => ?_⟩
        · have := block_lt_of_cell hc0
          simpa [Addr.add] using this
        · rw [hlen] at hj
          obtain ⟨a, c, q1, q2, _⟩ := hf j hj
          have hcj := (hall j (by omega)).1
          rw [Addr.add_lit, q1] at hcj
          have e : ((List.range len).map f)[j]'(by rw [hlen]; exact hj) = f j := by simp
          rw [e]
          exact ⟨a, c, hcj, q2⟩
    · intro L hL
      obtain ⟨i, hi, rfl⟩ := List.mem_map.1 hL
      obtain ⟨_, _, _, _, q⟩ := hf i (List.mem_range.1 hi)
      exact q
end Go.Proofs.Ytllmjlobhjcbkaa
