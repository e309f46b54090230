/-
  A device that the law made, beside blocks that it does not touch.
-/
import Derived.Test.YthmjejmkkllbaaaAwake
import Derived.Test.YthmjejmkkllbaaaFuse
namespace Go.Proofs.Ythmjejmkkllbaaa
open Go.RowKit

def DL (w wr : World) (d : Nat) (K : Nat → Prop) (M : D) : Prop :=
  ∃ F, Dev wr F d M ∧ (∀ j, F j → w.heap.size ≤ j ∧ ¬ K j) ∧ Below w.heap.size w wr ∧ ∀ j, K j → j < wr.heap.size

theorem DL.old {w wr : World} {d : Nat} {K : Nat → Prop} {M : D} (h : DL w wr d K M) : Below w.heap.size w wr := by
  obtain ⟨F, _, _, h3, _⟩ := h
  exact h3
theorem DL.ok {w wr : World} {d : Nat} {K : Nat → Prop} {M : D} (h : DL w wr d K M) : M.Ok := by
  obtain ⟨F, h1, _⟩ := h
  exact h1.1
theorem DL.below {w wr w2 : World} {d : Nat} {K : Nat → Prop} {M : D} (h : DL w wr d K M) (hb : Below wr.heap.size wr w2) : DL w w2 d K M := by
  obtain ⟨F, h1, h2, h3, h4⟩ := h
  exact ⟨F, h1.below hb, h2, h3.trans (hb.mono h3.size), fun j hj => Nat.lt_of_lt_of_le (h4 j hj) hb.size⟩
theorem DL.turn {w wr w2 : World} {d : Nat} {K : Nat → Prop} {M : D} (h : DL w wr d K M) (ht : Turn K wr w2) (hK : ∀ j, K j → w.heap.size ≤ j) : DL w w2 d K M := by
  obtain ⟨F, h1, h2, h3, h4⟩ := h
  exact ⟨F, h1.other ht (fun k hk => (h2 k hk).2), h2, h3.trans (ht.below hK h3.size), fun j hj => Nat.lt_of_lt_of_le (h4 j hj) ht.size⟩

theorem dl_step {w wr w2 w' : World} {d : Nat} {K F : Nat → Prop} {N : D} (h2 : ∀ j, F j → w.heap.size ≤ j ∧ ¬ K j) (h3 : Below w.heap.size w wr) (h4 : ∀ j, K j → j < wr.heap.size) (hb : Below wr.heap.size wr w2) (hD : Dev w' (Grow F w2 w') d N) (hT : Turn F w2 w') :
    DL w w' d K N ∧ ∀ j, K j → w'.heap[j]? = wr.heap[j]? := by
  have s1 := h3.size
  have s2 := hb.size
  have s3 := hT.size
  refine ⟨⟨_, hD, ?_, (h3.trans (hb.mono s1)).trans (hT.below (fun k hk => (h2 k hk).1) (by omega)), fun j hj => by have := h4 j hj; omega⟩, ?_⟩
  · intro j hj
    rcases hj with hj | hj
    · exact h2 j hj
    · refine ⟨by omega, fun hk => ?_⟩
      have := h4 j hk
      omega
  · intro j hj
    have := h4 j hj
    rw [hT.block j (by omega) (fun hf => (h2 j hf).2 hj), hb.block j this]

theorem dl_write {w wr w2 : World} {d g cap : Nat} {K : Nat → Prop} {M : D} (i : Int) {l : List UInt8} (h : DL w wr d K M) (hl : l.length = 256) (hb : Below wr.heap.size wr w2) (hg : wr.heap.size ≤ g) (hby : Bytes w2 (some ⟨g, 0, none⟩) l) (hC : M.C.length ≤ 100000) :
    Calls Try.prog 11 #[.pointer (some ⟨d, 0, none⟩), .int .i64 i, .slice (some ⟨g, 0, none⟩) 256 cap] w2 fun e w' => e = .returned (.int .i64 (M.wr i ⟨l.toArray⟩).1) ∧ DL w w' d K (M.wr i ⟨l.toArray⟩).2 ∧ ∀ j, K j → w'.heap[j]? = wr.heap[j]? := by
  obtain ⟨F, h1, h2, h3, h4⟩ := h
  have hw := write_any d i (some ⟨g, 0, none⟩) l cap w2 F M (h1.below hb) hby (by
    intro ad e hF
    simp only [Option.some.injEq] at e
    subst e
    have := h1.2.1 _ hF
    have hg' : wr.heap.size ≤ g := hg
    exact absurd this (by simpa using hg')) hC
  rw [hl] at hw
  refine hw.mono ?_
  rintro e w' ⟨rfl, hD, hT⟩
  exact ⟨rfl, dl_step h2 h3 h4 hb hD hT⟩

theorem dl_flush {w wr : World} {d : Nat} {K : Nat → Prop} {M : D} (h : DL w wr d K M) (hC : M.C.length ≤ 100000) :
    Calls Try.prog 10 #[.pointer (some ⟨d, 0, none⟩)] wr fun e w' => e = .returned (.int .i64 M.flush.1) ∧ DL w w' d K M.flush.2 ∧ ∀ j, K j → w'.heap[j]? = wr.heap[j]? := by
  obtain ⟨F, h1, h2, h3, h4⟩ := h
  refine (flush_any d wr F M h1 hC).mono ?_
  rintro e w' ⟨rfl, hD, hT⟩
  exact ⟨rfl, dl_step h2 h3 h4 (Below.refl _ _) hD.grow hT⟩

theorem dl_fuse {w wr : World} {d : Nat} {K : Nat → Prop} {M : D} (q : Int) (h : DL w wr d K M) (hq : q ≤ 9223372036854775807) :
    Calls Try.prog 9 #[.pointer (some ⟨d, 0, none⟩), .int .i64 q] wr fun e w' => e = .returned (.tuple #[]) ∧ DL w w' d K (M.fuse q) ∧ ∀ j, K j → w'.heap[j]? = wr.heap[j]? := by
  obtain ⟨F, h1, h2, h3, h4⟩ := h
  refine (fuse_any d q wr F M h1 hq).mono ?_
  rintro e w' ⟨rfl, hD, hT⟩
  exact ⟨rfl, dl_step h2 h3 h4 (Below.refl _ _) hD.grow hT⟩

theorem dl_crash {w wr : World} {d cap : Nat} {a : Option Addr} {keep : List Bool} {K : Nat → Prop} {M : D} (h : DL w wr d K M) (hk : Bools w a keep) (hC : M.C.length ≤ 100000) :
    Calls Try.prog 15 #[.pointer (some ⟨d, 0, none⟩), .slice a keep.length cap] wr fun e w' => e = .returned (.tuple #[]) ∧ DL w w' d K (M.crash keep) ∧ ∀ j, K j → w'.heap[j]? = wr.heap[j]? := by
  obtain ⟨F, h1, h2, h3, h4⟩ := h
  have ha : 0 < keep.length → ∀ ad, a = some ad → ad.block < w.heap.size := by
    intro h0 ad e
    rcases hk with rfl | ⟨b, off, rfl, hb', hc⟩
    · simp at h0
    · simp only [Option.some.injEq] at e
      subst e
      exact hb'
  have hkr : Bools wr a keep := by
    rcases hk with rfl | ⟨b, off, rfl, hb', hc⟩
    · exact .inl rfl
    · exact .inr ⟨b, off, rfl, by have := h3.size; omega, fun j hj => (h3.cell (p := ⟨b, off + j, none⟩) hb').trans (hc j hj)⟩
  refine (crash_any d a keep cap wr F M h1 hkr (fun h0 ad e hf => by have := ha h0 ad e; have := (h2 _ hf).1; omega) hC).mono ?_
  rintro e w' ⟨rfl, hD, hT⟩
  exact ⟨rfl, dl_step h2 h3 h4 (Below.refl _ _) hD hT⟩

theorem dl_read {w wr : World} {d : Nat} (i : Nat) {K : Nat → Prop} {M : D} (h : DL w wr d K M) (hs : M.st ≠ 2) (hi : i < M.S.length) :
    Calls Try.prog 14 #[.pointer (some ⟨d, 0, none⟩), .int .i64 (i : Int)] wr fun e w' => ∃ g cap, e = .returned (.tuple #[.slice (some ⟨g, 0, none⟩) M.S[i].size cap, .int .i64 0]) ∧ Fresh w' g M.S[i] ∧ wr.heap.size ≤ g ∧ Below wr.heap.size wr w' := by
  obtain ⟨F, h1, h2, h3, h4⟩ := h
  exact read_ok d i wr F M h1 hs hi
theorem dl_pending {w wr : World} {d : Nat} {K : Nat → Prop} {M : D} (h : DL w wr d K M) :
    Calls Try.prog 23 #[.pointer (some ⟨d, 0, none⟩)] wr fun e w' => e = .returned (.int .i64 (M.C.length : Int)) ∧ wr = w' := by
  obtain ⟨F, h1, h2, h3, h4⟩ := h
  exact pending_any d wr F M h1
theorem dl_dead {w wr : World} {d : Nat} {K : Nat → Prop} {M : D} (h : DL w wr d K M) :
    Calls Try.prog 13 #[.pointer (some ⟨d, 0, none⟩)] wr fun e w' => e = .returned (.bool (decide (M.st = 2))) ∧ wr = w' := by
  obtain ⟨F, h1, h2, h3, h4⟩ := h
  exact dead_any d wr F M h1
theorem dl_new (w : World) : Calls Try.prog 7 #[.int .i64 8] w fun e w' => ∃ d, e = .returned (.tuple #[.pointer (some ⟨d, 0, none⟩), .int .i64 0]) ∧ DL w w' d (fun _ => False) (D.new 8 blank) := by
  refine (new_ok 8 w (by omega) (by omega)).mono ?_
  rintro e w' ⟨d, rfl, hD, hb⟩
  exact ⟨d, rfl, _, hD, fun j hj => ⟨hj.1, fun h => h⟩, hb, fun j hj => hj.elim⟩
/-- A block more that it does not touch. -/
theorem DL.wider {w wr w2 : World} {d X : Nat} {M : D} (h : DL w wr d (fun _ => False) M) (hb : Below wr.heap.size wr w2) (hX : wr.heap.size ≤ X) (hX2 : X < w2.heap.size) : DL w w2 d (fun k => k = X) M := by
  obtain ⟨F, h1, h2, h3, h4⟩ := h
  refine ⟨F, h1.below hb, fun j hj => ⟨(h2 j hj).1, fun e => ?_⟩, h3.trans (hb.mono h3.size), fun j hj => by rw [hj]; exact hX2⟩
  have := h1.2.1 j hj
  omega

/-- What a device without a fuse does. -/
theorem wr_unfused {M : D} (hs : M.st = 0) (i : Int) (b : ByteArray) (h0 : 0 ≤ i) (h1 : i < (M.S.length : Int)) (hb : b.size = 256) : M.wr i b = (0, { M with C := M.C ++ [(i.toNat, b)], S := M.S.set i.toNat b }) := by
  have e : M.burn = (0, M) := by rw [D.burn, if_pos hs]
  rw [wr_done (.inr ⟨h0, h1, hb⟩) (by rw [e]), e]
theorem flush_unfused {M : D} (hs : M.st = 0) : M.flush = (0, { M with L := app M.L M.C, C := [] }) := by
  have e : M.burn = (0, M) := by rw [D.burn, if_pos hs]
  rw [D.flush, e, if_neg (by simp)]
end Go.Proofs.Ythmjejmkkllbaaa
