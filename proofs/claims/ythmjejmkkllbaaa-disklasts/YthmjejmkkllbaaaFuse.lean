/-
  A device under a fuse, told by how many calls it has seen.
-/
import Derived.Test.YthmjejmkkllbaaaAwake
namespace Go.Proofs.Ythmjejmkkllbaaa
open Go.RowKit

theorem and7 (n : Int) : bits .and .i64 n 7 = n % 8 := by
  show IntKind.i64.wrap ((BitVec.ofInt 64 n &&& BitVec.ofInt 64 7).toNat : Int) = _
  rw [BitVec.toNat_and]
  have h2 : (BitVec.ofInt 64 (7 : Int)).toNat = 2 ^ 3 - 1 := by decide
  rw [h2, Nat.and_two_pow_sub_one_eq_mod, BitVec.toNat_ofInt, IntKind.wrap_i64]
  omega

def er (fuse : Int) (k : Nat) : Int := if fuse < 0 ∨ (k : Int) < fuse then 0 else 50
def FS (fuse : Int) (k : Nat) (M : D) : Prop := (fuse < 0 → M.st = 0) ∧ (0 ≤ fuse → (k : Int) ≤ fuse → M.st = 1 ∧ M.k = fuse - k) ∧ (0 ≤ fuse → fuse < (k : Int) → M.st = 2)

theorem FS.burn {fuse : Int} {k : Nat} {M : D} (h : FS fuse k M) : M.burn.1 = er fuse k ∧ FS fuse (k + 1) M.burn.2 := by
  obtain ⟨h1, h2, h3⟩ := h
  by_cases hf : fuse < 0
  · have e : M.burn = (0, M) := by rw [D.burn, if_pos (h1 hf)]
    rw [e, er, if_pos (.inl hf)]
    exact ⟨rfl, fun _ => h1 hf, fun h0 => by omega, fun h0 => by omega⟩
  · by_cases hk : (k : Int) < fuse
    · obtain ⟨s, q⟩ := h2 (by omega) (by omega)
      have e : M.burn = (0, { M with k := M.k - 1 }) := by rw [D.burn, if_neg (by omega), if_pos ⟨s, by omega⟩]
      rw [e, er, if_pos (.inr hk)]
      refine ⟨rfl, fun h0 => by omega, fun _ _ => ⟨s, ?_⟩, fun _ h0 => by omega⟩
      show M.k - 1 = _
      omega
    · have e : M.burn = (50, { M with st := 2 }) := by
        by_cases hq : (k : Int) ≤ fuse
        · obtain ⟨s, q⟩ := h2 (by omega) hq
          rw [D.burn, if_neg (by omega), if_neg (by omega)]
        · have := h3 (by omega) (by omega)
          rw [D.burn, if_neg (by omega), if_neg (by omega)]
      rw [e, er, if_neg (by omega)]
      exact ⟨rfl, fun h0 => by omega, fun _ h0 => by omega, fun _ _ => rfl⟩
theorem FS.of {fuse : Int} {k : Nat} {M N : D} (h : FS fuse k M) (hs : N.st = M.st) (hk : N.k = M.k) : FS fuse k N := by
  obtain ⟨h1, h2, h3⟩ := h
  rw [FS, hs, hk]
  exact ⟨h1, h2, h3⟩

/-- The device that the law made, behind k calls. -/
def Inv (w wr : World) (d : Nat) (fuse : Int) (k : Nat) : Prop :=
  ∃ F M, Dev wr F d M ∧ (∀ j, F j → w.heap.size ≤ j) ∧ Below w.heap.size w wr ∧ FS fuse k M ∧ M.L.length = 8 ∧ M.C.length ≤ k

theorem Inv.below {w wr w2 : World} {d : Nat} {fuse : Int} {k : Nat} (h : Inv w wr d fuse k) (hb : Below wr.heap.size wr w2) : Inv w w2 d fuse k := by
  obtain ⟨F, M, h1, h2, h3, h4⟩ := h
  exact ⟨F, M, h1.below hb, h2, h3.trans (hb.mono h3.size), h4⟩
theorem Inv.old {w wr : World} {d : Nat} {fuse : Int} {k : Nat} (h : Inv w wr d fuse k) : Below w.heap.size w wr := by
  obtain ⟨F, M, h1, h2, h3, h4⟩ := h
  exact h3

theorem inv_flush {w wr : World} {d : Nat} {fuse : Int} {k : Nat} (h : Inv w wr d fuse k) (hk : k ≤ 60) :
    Calls Try.prog 10 #[.pointer (some ⟨d, 0, none⟩)] wr fun e w' => e = .returned (.int .i64 (er fuse k)) ∧ Inv w w' d fuse (k + 1) := by
  obtain ⟨F, M, h1, h2, h3, h4, h5, h6⟩ := h
  obtain ⟨e1, e2⟩ := h4.burn
  obtain ⟨bl, bs, bc⟩ := M.burn_L
  refine (flush_any d wr F M h1 (by omega)).mono ?_
  rintro e w' ⟨rfl, hD, hT⟩
  have hf : M.flush.1 = M.burn.1 ∧ FS fuse (k + 1) M.flush.2 ∧ M.flush.2.L.length = 8 ∧ M.flush.2.C.length ≤ k + 1 := by
    unfold D.flush
    split
    · exact ⟨rfl, e2, by rw [bl]; exact h5, by rw [bc]; omega⟩
    · rename_i hn
      refine ⟨by show 0 = M.burn.1; omega, e2.of rfl rfl, ?_, by simp⟩
      show (app M.L M.C).length = 8
      rw [app_length]
      exact h5
  rw [hf.1, e1]
  exact ⟨rfl, F, M.flush.2, hD, h2, h3.trans (hT.below h2 h3.size), hf.2⟩

theorem inv_write {w wr w2 : World} {d g cap : Nat} {i : Int} {l : List UInt8} {fuse : Int} {k : Nat} (h : Inv w wr d fuse k) (hk : k ≤ 60) (hi0 : 0 ≤ i) (hi8 : i < 8) (hl : l.length = 256) (hb : Below wr.heap.size wr w2) (hg : wr.heap.size ≤ g) (hby : Bytes w2 (some ⟨g, 0, none⟩) l) :
    Calls Try.prog 11 #[.pointer (some ⟨d, 0, none⟩), .int .i64 i, .slice (some ⟨g, 0, none⟩) 256 cap] w2 fun e w' => e = .returned (.int .i64 (er fuse k)) ∧ Inv w w' d fuse (k + 1) := by
  obtain ⟨F, M, h1, h2, h3, h4, h5, h6⟩ := h
  obtain ⟨e1, e2⟩ := h4.burn
  obtain ⟨bl, bs, bc⟩ := M.burn_L
  have hlen := h1.1.len
  have hw := write_any d i (some ⟨g, 0, none⟩) l cap w2 F M (h1.below hb) hby (by
    intro ad e hF
    simp only [Option.some.injEq] at e
    subst e
    have := h1.2.1 _ hF
    have hg' : wr.heap.size ≤ g := hg
    exact absurd this (by simpa using hg')) (by omega)
  rw [hl] at hw
  refine hw.mono ?_
  rintro e w' ⟨rfl, hD, hT⟩
  have hsz : (⟨l.toArray⟩ : ByteArray).size = 256 := by rw [← hl]; simp [ByteArray.size]
  have hcond : 0 ≤ i ∧ i < (M.S.length : Int) ∧ (⟨l.toArray⟩ : ByteArray).size = 256 := ⟨hi0, by omega, hsz⟩
  have hf : (M.wr i ⟨l.toArray⟩).1 = M.burn.1 ∧ FS fuse (k + 1) (M.wr i ⟨l.toArray⟩).2 ∧ (M.wr i ⟨l.toArray⟩).2.L.length = 8 ∧ (M.wr i ⟨l.toArray⟩).2.C.length ≤ k + 1 := by
    rcases burn_two M with h0 | h50
    · rw [wr_done (.inr hcond) h0]
      refine ⟨h0.symm, e2.of rfl rfl, by show M.burn.2.L.length = 8; rw [bl]; exact h5, ?_⟩
      show (M.C ++ [_]).length ≤ k + 1
      simp
      exact h6
    · rw [wr_burnt (.inr hcond) (by omega)]
      exact ⟨rfl, e2, by rw [bl]; exact h5, by rw [bc]; omega⟩
  rw [hf.1, e1]
  have hs2 : w.heap.size ≤ w2.heap.size := Nat.le_trans h3.size hb.size
  refine ⟨rfl, _, _, hD, ?_, (h3.trans (hb.mono h3.size)).trans (hT.below h2 hs2), hf.2⟩
  intro j hj
  rcases hj with hj | hj
  · exact h2 j hj
  · omega

theorem inv_dead {w wr : World} {d : Nat} {fuse : Int} {k : Nat} (h : Inv w wr d fuse k) :
    Calls Try.prog 13 #[.pointer (some ⟨d, 0, none⟩)] wr fun e w' => e = .returned (.bool (decide (0 ≤ fuse ∧ fuse < (k : Int)))) ∧ wr = w' := by
  obtain ⟨F, M, h1, h2, h3, ⟨a1, a2, a3⟩, h5, h6⟩ := h
  have e : decide (0 ≤ fuse ∧ fuse < (k : Int)) = decide (M.st = 2) := by
    rw [decide_eq_decide]
    constructor
    · intro h; exact a3 h.1 h.2
    · intro h
      by_cases hf : fuse < 0
      · have := a1 hf; omega
      · by_cases hq : (k : Int) ≤ fuse
        · have := (a2 (by omega) hq).1; omega
        · omega
  rw [e]
  exact dead_any d wr F M h1

theorem inv_read {w wr : World} {d : Nat} {fuse : Int} {k : Nat} (h : Inv w wr d fuse k) :
    Calls Try.prog 14 #[.pointer (some ⟨d, 0, none⟩), .int .i64 0] wr fun e w' => ∃ v, e = .returned (.tuple #[v, .int .i64 (if decide (0 ≤ fuse ∧ fuse < (k : Int)) then 50 else 0)]) ∧ Inv w w' d fuse k := by
  have hI := h
  obtain ⟨F, M, h1, h2, h3, ⟨a1, a2, a3⟩, h5, h6⟩ := h
  by_cases hq : 0 ≤ fuse ∧ fuse < (k : Int)
  · rw [decide_eq_true hq]
    refine (read_dead d 0 wr F M h1 (a3 hq.1 hq.2)).mono ?_
    rintro e w' ⟨rfl, rfl⟩
    exact ⟨_, rfl, hI⟩
  · rw [decide_eq_false hq]
    have hst : M.st ≠ 2 := by
      by_cases hf : fuse < 0
      · have := a1 hf; omega
      · have := (a2 (by omega) (by omega)).1; omega
    refine (read_ok d 0 wr F M h1 hst (by rw [h1.1.len, h5]; omega)).mono ?_
    rintro e w' ⟨g, cap, rfl, _, _, hb⟩
    exact ⟨_, rfl, hI.below hb⟩

theorem inv_crash {w wr : World} {d : Nat} {fuse : Int} {k : Nat} (h : Inv w wr d fuse k) (hk : k ≤ 60) :
    Calls Try.prog 15 #[.pointer (some ⟨d, 0, none⟩), .slice none 0 0] wr fun e w' => e = .returned (.tuple #[]) ∧ Inv w w' d (-1) 0 := by
  obtain ⟨F, M, h1, h2, h3, h4, h5, h6⟩ := h
  refine (crash_any d none [] 0 wr F M h1 (.inl rfl) (by simp) (by omega)).mono ?_
  rintro e w' ⟨rfl, hD, hT⟩
  have h3s := h3.size
  refine ⟨rfl, _, _, hD, ?_, h3.trans (hT.below h2 h3.size), ?_, ?_, ?_⟩
  · intro j hj
    rcases hj with hj | hj
    · exact h2 j hj
    · omega
  · exact ⟨fun _ => rfl, fun h0 => by omega, fun h0 => by omega⟩
  · show (app _ _).length = 8
    rw [app_length]
    exact h5
  · exact Nat.le_refl _

theorem inv_fuse {w wr : World} {d : Nat} {q : Int} (h : Inv w wr d (-1) 0) (hq : q ≤ 9223372036854775807) :
    Calls Try.prog 9 #[.pointer (some ⟨d, 0, none⟩), .int .i64 q] wr fun e w' => e = .returned (.tuple #[]) ∧ Inv w w' d q 0 := by
  obtain ⟨F, M, h1, h2, h3, ⟨a1, a2, a3⟩, h5, h6⟩ := h
  have hst : M.st = 0 := a1 (by omega)
  refine (fuse_any d q wr F M h1 hq).mono ?_
  rintro e w' ⟨rfl, hD, hT⟩
  refine ⟨rfl, F, M.fuse q, hD, h2, h3.trans (hT.below h2 h3.size), ?_, ?_, ?_⟩
  · unfold D.fuse
    rw [if_neg (by omega)]
    split
    · exact ⟨fun _ => rfl, fun h0 => by omega, fun h0 => by omega⟩
    · exact ⟨fun h0 => by omega, fun _ _ => ⟨rfl, by show q = q - ((0 : Nat) : Int); omega⟩, fun h0 h1 => by omega⟩
  · unfold D.fuse
    rw [if_neg (by omega)]
    split <;> exact h5
  · unfold D.fuse
    rw [if_neg (by omega)]
    split <;> exact h6

theorem inv_new (w : World) : Calls Try.prog 7 #[.int .i64 8] w fun e w' => ∃ d, e = .returned (.tuple #[.pointer (some ⟨d, 0, none⟩), .int .i64 0]) ∧ Inv w w' d (-1) 0 := by
  refine (new_ok 8 w (by omega) (by omega)).mono ?_
  rintro e w' ⟨d, rfl, hD, hb⟩
  refine ⟨d, rfl, _, _, hD, fun j hj => hj.1, hb, ⟨fun _ => rfl, fun h0 => by omega, fun h0 => by omega⟩, by simp [D.new], by simp [D.new]⟩
end Go.Proofs.Ythmjejmkkllbaaa
