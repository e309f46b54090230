/-
  The code's device and the document's side by side, beside blocks that neither touches.
-/
import Derived.Test.YtecljiefljgfmaaSim
import Derived.Test.YtecljiefljgfmaaRefNew
import Derived.Test.YtecljiefljgfmaaRead
import Derived.Test.YtecljiefljgfmaaWrite
namespace Go.Proofs.Ytecljiefljgfmaa
open Go.RowKit

def Pair (w wr : World) (d r : Nat) (K : Nat → Prop) (M : D) (N : R) : Prop :=
  ∃ F G, Dev wr F d M ∧ RDev wr G r N ∧ (∀ j, F j → w.heap.size ≤ j ∧ ¬ G j ∧ ¬ K j) ∧ (∀ j, G j → w.heap.size ≤ j ∧ ¬ K j) ∧ (∀ j, K j → j < wr.heap.size) ∧ Below w.heap.size w wr

theorem Pair.old {w wr : World} {d r : Nat} {K : Nat → Prop} {M : D} {N : R} (h : Pair w wr d r K M N) : Below w.heap.size w wr := by
  obtain ⟨F, G, _, _, _, _, _, h6⟩ := h
  exact h6
theorem Pair.ok {w wr : World} {d r : Nat} {K : Nat → Prop} {M : D} {N : R} (h : Pair w wr d r K M N) : M.Ok := by
  obtain ⟨F, G, h1, _⟩ := h
  exact h1.1
/-- The world goes on; new blocks, or some of K turned. -/
theorem Pair.go {w wr w2 : World} {d r : Nat} {K K' : Nat → Prop} {M : D} {N : R} (h : Pair w wr d r K M N) (ht : Turn K wr w2) (hK : ∀ j, K j → w.heap.size ≤ j) (hK' : ∀ j, K' j → K j ∨ (wr.heap.size ≤ j ∧ j < w2.heap.size)) : Pair w w2 d r K' M N := by
  obtain ⟨F, G, h1, h2, h3, h4, h5, h6⟩ := h
  have hs := ht.size
  refine ⟨F, G, h1.other ht (fun k hk => (h3 k hk).2.2), h2.other ht (fun k hk => (h4 k hk).2), ?_, ?_, ?_, h6.trans (ht.below hK h6.size)⟩
  · intro j hj
    refine ⟨(h3 j hj).1, (h3 j hj).2.1, fun hk => ?_⟩
    rcases hK' j hk with hk | hk
    · exact (h3 j hj).2.2 hk
    · have := h1.2.1 j hj; omega
  · intro j hj
    refine ⟨(h4 j hj).1, fun hk => ?_⟩
    rcases hK' j hk with hk | hk
    · exact (h4 j hj).2 hk
    · have := h2.2.1 j hj; omega
  · intro j hj
    rcases hK' j hj with hk | hk
    · have := h5 j hk; omega
    · exact hk.2
theorem Pair.below {w wr w2 : World} {d r : Nat} {K : Nat → Prop} {M : D} {N : R} (h : Pair w wr d r K M N) (hb : Below wr.heap.size wr w2) : Pair w w2 d r K M N := by
  obtain ⟨F, G, h1, h2, h3, h4, h5, h6⟩ := h
  exact ⟨F, G, h1.below hb, h2.below hb, h3, h4, fun j hj => Nat.lt_of_lt_of_le (h5 j hj) hb.size, h6.trans (hb.mono h6.size)⟩
theorem Pair.wider {w wr w2 : World} {d r : Nat} {K K' : Nat → Prop} {M : D} {N : R} (h : Pair w wr d r K M N) (hb : Below wr.heap.size wr w2) (hK' : ∀ j, K' j → K j ∨ (wr.heap.size ≤ j ∧ j < w2.heap.size)) : Pair w w2 d r K' M N := by
  obtain ⟨F, G, h1, h2, h3, h4, h5, h6⟩ := h
  have hs := hb.size
  refine ⟨F, G, h1.below hb, h2.below hb, ?_, ?_, ?_, h6.trans (hb.mono h6.size)⟩
  · intro j hj
    refine ⟨(h3 j hj).1, (h3 j hj).2.1, fun hk => ?_⟩
    rcases hK' j hk with hk | hk
    · exact (h3 j hj).2.2 hk
    · have := h1.2.1 j hj; omega
  · intro j hj
    refine ⟨(h4 j hj).1, fun hk => ?_⟩
    rcases hK' j hk with hk | hk
    · exact (h4 j hj).2 hk
    · have := h2.2.1 j hj; omega
  · intro j hj
    rcases hK' j hj with hk | hk
    · have := h5 j hk; omega
    · exact hk.2
theorem Pair.less {w wr : World} {d r : Nat} {K K' : Nat → Prop} {M : D} {N : R} (h : Pair w wr d r K M N) (hK' : ∀ j, K' j → K j) : Pair w wr d r K' M N :=
  h.wider (Below.refl _ _) fun j hj => .inl (hK' j hj)

theorem pair_d {w wr w' : World} {d r : Nat} {K F G : Nat → Prop} {M' : D} {N : R} (h2 : RDev wr G r N) (h3 : ∀ j, F j → w.heap.size ≤ j ∧ ¬ G j ∧ ¬ K j) (h4 : ∀ j, G j → w.heap.size ≤ j ∧ ¬ K j) (h5 : ∀ j, K j → j < wr.heap.size) (h6 : Below w.heap.size w wr) (hD : Dev w' (Grow F wr w') d M') (hT : Turn F wr w') :
    Pair w w' d r K M' N ∧ ∀ j, K j → w'.heap[j]? = wr.heap[j]? := by
  have s1 := h6.size
  have s2 := hT.size
  refine ⟨⟨_, G, hD, h2.other hT (fun k hk hf => (h3 k hf).2.1 hk), ?_, h4, fun j hj => by have := h5 j hj; omega, h6.trans (hT.below (fun k hk => (h3 k hk).1) s1)⟩, fun j hj => hT.block j (h5 j hj) (fun hf => (h3 j hf).2.2 hj)⟩
  intro j hj
  rcases hj with hj | hj
  · exact h3 j hj
  · refine ⟨by omega, fun hg => ?_, fun hk => ?_⟩
    · have := h2.2.1 j hg; omega
    · have := h5 j hk; omega
theorem pair_r {w wr w' : World} {d r : Nat} {K F G : Nat → Prop} {M : D} {N' : R} (h1 : Dev wr F d M) (h3 : ∀ j, F j → w.heap.size ≤ j ∧ ¬ G j ∧ ¬ K j) (h4 : ∀ j, G j → w.heap.size ≤ j ∧ ¬ K j) (h5 : ∀ j, K j → j < wr.heap.size) (h6 : Below w.heap.size w wr) (hD : RDev w' (Grow G wr w') r N') (hT : Turn G wr w') :
    Pair w w' d r K M N' ∧ ∀ j, K j → w'.heap[j]? = wr.heap[j]? := by
  have s1 := h6.size
  have s2 := hT.size
  refine ⟨⟨F, _, h1.other hT (fun k hk => (h3 k hk).2.1), hD, ?_, ?_, fun j hj => by have := h5 j hj; omega, h6.trans (hT.below (fun k hk => (h4 k hk).1) s1)⟩, fun j hj => hT.block j (h5 j hj) (fun hf => (h4 j hf).2 hj)⟩
  · intro j hj
    refine ⟨(h3 j hj).1, fun hg => ?_, (h3 j hj).2.2⟩
    rcases hg with hg | hg
    · exact (h3 j hj).2.1 hg
    · have := h1.2.1 j hj; omega
  · intro j hj
    rcases hj with hj | hj
    · exact h4 j hj
    · exact ⟨by omega, fun hk => by have := h5 j hk; omega⟩

theorem p_write {w wr : World} {d r g cap : Nat} {K : Nat → Prop} {M : D} {N : R} (i : Int) {l : List UInt8} (h : Pair w wr d r K M N) (hg : K g) (hby : Bytes wr (some ⟨g, 0, none⟩) l) (hC : M.C.length ≤ 100000) :
    Calls Try.prog 21 #[.pointer (some ⟨d, 0, none⟩), .int .i64 i, .slice (some ⟨g, 0, none⟩) l.length cap] wr fun e w' => e = .returned (.int .i64 (M.wr i ⟨l.toArray⟩).1) ∧ Pair w w' d r K (M.wr i ⟨l.toArray⟩).2 N ∧ ∀ j, K j → w'.heap[j]? = wr.heap[j]? := by
  obtain ⟨F, G, h1, h2, h3, h4, h5, h6⟩ := h
  refine (write_any d i (some ⟨g, 0, none⟩) l cap wr F M h1 hby (fun ad e hf => by
    simp only [Option.some.injEq] at e
    subst e
    exact (h3 _ hf).2.2 hg) hC).mono ?_
  rintro e w' ⟨rfl, hD, hT⟩
  exact ⟨rfl, pair_d h2 h3 h4 h5 h6 hD hT⟩
theorem p_flush {w wr : World} {d r : Nat} {K : Nat → Prop} {M : D} {N : R} (h : Pair w wr d r K M N) (hC : M.C.length ≤ 100000) :
    Calls Try.prog 87 #[.pointer (some ⟨d, 0, none⟩)] wr fun e w' => e = .returned (.int .i64 M.flush.1) ∧ Pair w w' d r K M.flush.2 N ∧ ∀ j, K j → w'.heap[j]? = wr.heap[j]? := by
  obtain ⟨F, G, h1, h2, h3, h4, h5, h6⟩ := h
  refine (flush_any d wr F M h1 hC).mono ?_
  rintro e w' ⟨rfl, hD, hT⟩
  exact ⟨rfl, pair_d h2 h3 h4 h5 h6 hD.grow hT⟩
theorem p_fuse {w wr : World} {d r : Nat} {K : Nat → Prop} {M : D} {N : R} (q : Int) (h : Pair w wr d r K M N) (hq : q ≤ 9223372036854775807) :
    Calls Try.prog 19 #[.pointer (some ⟨d, 0, none⟩), .int .i64 q] wr fun e w' => e = .returned (.tuple #[]) ∧ Pair w w' d r K (M.fuse q) N ∧ ∀ j, K j → w'.heap[j]? = wr.heap[j]? := by
  obtain ⟨F, G, h1, h2, h3, h4, h5, h6⟩ := h
  refine (fuse_any d q wr F M h1 hq).mono ?_
  rintro e w' ⟨rfl, hD, hT⟩
  exact ⟨rfl, pair_d h2 h3 h4 h5 h6 hD.grow hT⟩
theorem bools_old {w wr : World} {a : Option Addr} {keep : List Bool} (h3 : Below w.heap.size w wr) (hk : Bools w a keep) : Bools wr a keep ∧ (0 < keep.length → ∀ ad, a = some ad → ad.block < w.heap.size) := by
  rcases hk with rfl | ⟨b, off, rfl, hb', hc⟩
  · exact ⟨.inl rfl, fun h => by simp at h⟩
  · refine ⟨.inr ⟨b, off, rfl, by have := h3.size; omega, fun j hj => (h3.cell (p := ⟨b, off + j, none⟩) hb').trans (hc j hj)⟩, fun _ ad e => ?_⟩
    simp only [Option.some.injEq] at e
    subst e
    exact hb'
theorem p_crash {w wr : World} {d r cap : Nat} {a : Option Addr} {keep : List Bool} {K : Nat → Prop} {M : D} {N : R} (h : Pair w wr d r K M N) (hk : Bools w a keep) (hC : M.C.length ≤ 100000) :
    Calls Try.prog 23 #[.pointer (some ⟨d, 0, none⟩), .slice a keep.length cap] wr fun e w' => e = .returned (.tuple #[]) ∧ Pair w w' d r K (M.crash keep) N ∧ ∀ j, K j → w'.heap[j]? = wr.heap[j]? := by
  obtain ⟨F, G, h1, h2, h3, h4, h5, h6⟩ := h
  obtain ⟨hkr, ha⟩ := bools_old h6 hk
  refine (crash_any d a keep cap wr F M h1 hkr (fun h0 ad e hf => by have := ha h0 ad e; have := (h3 _ hf).1; omega) hC).mono ?_
  rintro e w' ⟨rfl, hD, hT⟩
  exact ⟨rfl, pair_d h2 h3 h4 h5 h6 hD hT⟩
theorem p_rwrite {w wr : World} {d r : Nat} {K : Nat → Prop} {M : D} {N : R} (i : Int) (b : ByteArray) (h : Pair w wr d r K M N) (hC : N.W.length ≤ 100000) :
    Calls Try.prog 22 #[.pointer (some ⟨r, 0, none⟩), .int .i64 i, .string b] wr fun e w' => e = .returned (.int .i64 (N.wr i b).1) ∧ Pair w w' d r K M (N.wr i b).2 ∧ ∀ j, K j → w'.heap[j]? = wr.heap[j]? := by
  obtain ⟨F, G, h1, h2, h3, h4, h5, h6⟩ := h
  refine (refwrite_any r i b wr G N h2 hC).mono ?_
  rintro e w' ⟨rfl, hD, hT⟩
  exact ⟨rfl, pair_r h1 h3 h4 h5 h6 hD hT⟩
theorem p_rflush {w wr : World} {d r : Nat} {K : Nat → Prop} {M : D} {N : R} (h : Pair w wr d r K M N) (hC : N.W.length ≤ 100000) :
    Calls Try.prog 52 #[.pointer (some ⟨r, 0, none⟩)] wr fun e w' => e = .returned (.int .i64 N.flush.1) ∧ Pair w w' d r K M N.flush.2 ∧ ∀ j, K j → w'.heap[j]? = wr.heap[j]? := by
  obtain ⟨F, G, h1, h2, h3, h4, h5, h6⟩ := h
  refine (refflush_any r wr G N h2 hC).mono ?_
  rintro e w' ⟨rfl, hD, hT⟩
  exact ⟨rfl, pair_r h1 h3 h4 h5 h6 hD.grow hT⟩
theorem p_rcrash {w wr : World} {d r cap : Nat} {a : Option Addr} {keep : List Bool} {K : Nat → Prop} {M : D} {N : R} (h : Pair w wr d r K M N) (hk : Bools w a keep) (hC : N.W.length ≤ 100000) :
    Calls Try.prog 24 #[.pointer (some ⟨r, 0, none⟩), .slice a keep.length cap] wr fun e w' => e = .returned (.tuple #[]) ∧ Pair w w' d r K M (N.crash keep) ∧ ∀ j, K j → w'.heap[j]? = wr.heap[j]? := by
  obtain ⟨F, G, h1, h2, h3, h4, h5, h6⟩ := h
  obtain ⟨hkr, ha⟩ := bools_old h6 hk
  refine (refcrash_any r a keep cap wr G N h2 hkr (fun h0 ad e hf => by have := ha h0 ad e; have := (h4 _ hf).1; omega) hC).mono ?_
  rintro e w' ⟨rfl, hD, hT⟩
  exact ⟨rfl, pair_r h1 h3 h4 h5 h6 hD.grow hT⟩
theorem p_rfuse {w wr : World} {d r : Nat} {K : Nat → Prop} {M : D} {N : R} (q : Int) (h : Pair w wr d r K M N) (hq : q ≤ 9223372036854775807) :
    Pair w (wr.setCell ⟨r, 2, none⟩ (.int .i64 (max q (-1)))) d r K M (N.fuse q) ∧ wr.cell? ⟨r, 2, none⟩ = some (.int .i64 N.f) ∧ wr.frozen? ⟨r, 2, none⟩ = false := by
  obtain ⟨F, G, h1, h2, h3, h4, h5, h6⟩ := h
  obtain ⟨hD, hT⟩ := h2.fuse q hq
  obtain ⟨gl, cl, ca, cc, hV, _⟩ := h2.open
  exact ⟨(pair_r h1 h3 h4 h5 h6 hD.grow hT).1, cell_blk hV.blk 2, frozen_blk hV.blk 2⟩
theorem p_rread {w wr : World} {d r : Nat} {K : Nat → Prop} {M : D} {N : R} (i : Int) (h : Pair w wr d r K M N) (hC : N.W.length ≤ 100000) :
    Calls Try.prog 59 #[.pointer (some ⟨r, 0, none⟩), .int .i64 i] wr fun e w' => e = .returned (.tuple #[.string (N.rd i).1, .int .i64 (N.rd i).2]) ∧ wr = w' := by
  obtain ⟨F, G, h1, h2, h3, h4, h5, h6⟩ := h
  exact refread_any r i wr G N h2 hC
/-- What Read tells: a row of its own, or nothing. -/
theorem p_read {w wr : World} {d r : Nat} {K : Nat → Prop} {M : D} {N : R} (i : Int) (h : Pair w wr d r K M N) (hs : Sim M N) :
    Calls Try.prog 58 #[.pointer (some ⟨d, 0, none⟩), .int .i64 i] wr fun e w' => ∃ a cap, e = .returned (.tuple #[.slice a (N.rd i).1.size cap, .int .i64 (N.rd i).2]) ∧ Below wr.heap.size wr w' ∧
      ((a = none ∧ (N.rd i).1 = ⟨#[]⟩) ∨ ∃ g, a = some ⟨g, 0, none⟩ ∧ Fresh w' g (N.rd i).1 ∧ wr.heap.size ≤ g) := by
  obtain ⟨F, G, h1, h2, h3, h4, h5, h6⟩ := h
  by_cases hd : M.st = 2
  · rw [sim_rd_dead hs hd]
    refine (read_dead d i wr F M h1 hd).mono ?_
    rintro e w' ⟨rfl, rfl⟩
    exact ⟨none, 0, rfl, Below.refl _ _, .inl ⟨rfl, rfl⟩⟩
  · by_cases hi : 0 ≤ i ∧ i < (M.L.length : Int)
    · obtain ⟨i1, i2⟩ := hi
      obtain ⟨n, rfl⟩ := Int.eq_ofNat_of_zero_le i1
      have hn : n < M.S.length := by rw [h1.1.len]; omega
      rw [sim_rd_ok hs hd hn]
      refine (read_ok d n wr F M h1 hd hn).mono ?_
      rintro e w' ⟨g, cap, rfl, hf, hg, hb⟩
      exact ⟨_, cap, rfl, hb, .inr ⟨g, rfl, hf, hg⟩⟩
    · rw [sim_rd_arg hs hd hi]
      refine (read_arg d i wr F M h1 hd hi).mono ?_
      rintro e w' ⟨rfl, rfl⟩
      exact ⟨none, 0, rfl, Below.refl _ _, .inl ⟨rfl, rfl⟩⟩
theorem p_pend {w wr : World} {d r : Nat} {K : Nat → Prop} {M : D} {N : R} (h : Pair w wr d r K M N) :
    Calls Try.prog 29 #[.pointer (some ⟨d, 0, none⟩)] wr fun e w' => e = .returned (.int .i64 (M.C.length : Int)) ∧ wr = w' := by
  obtain ⟨F, G, h1, _⟩ := h
  exact pending_any d wr F M h1
theorem p_size {w wr : World} {d r : Nat} {K : Nat → Prop} {M : D} {N : R} (h : Pair w wr d r K M N) :
    Calls Try.prog 73 #[.pointer (some ⟨d, 0, none⟩)] wr fun e w' => e = .returned (.int .i64 (M.L.length : Int)) ∧ wr = w' := by
  obtain ⟨F, G, h1, _⟩ := h
  exact size_any d wr F M h1
theorem p_cells {w wr : World} {d r : Nat} {K : Nat → Prop} {M : D} {N : R} (h : Pair w wr d r K M N) :
    ∃ ca cc, wr.cell? ⟨r, 1, none⟩ = some (.slice ca N.W.length cc) ∧ wr.cell? ⟨r, 3, none⟩ = some (.bool N.dead) := by
  obtain ⟨F, G, h1, h2, _⟩ := h
  obtain ⟨gl, cl, ca, cc, hV, _⟩ := h2.open
  exact ⟨ca, cc, cell_blk hV.blk 1, cell_blk hV.blk 3⟩
theorem pair_make {w w1 w2 : World} {d r : Nat} {M : D} {N : R} (hD : Dev w1 (fun k => w.heap.size ≤ k ∧ k < w1.heap.size) d M) (hb : Below w.heap.size w w1) (hR : RDev w2 (fun k => w1.heap.size ≤ k ∧ k < w2.heap.size) r N) (hb2 : Below w1.heap.size w1 w2) : Pair w w2 d r (fun _ => False) M N := by
  have s1 := hb.size
  have s2 := hb2.size
  refine ⟨_, _, hD.below hb2, hR, ?_, ?_, fun j hj => hj.elim, hb.trans (hb2.mono s1)⟩
  · intro j hj
    exact ⟨hj.1, fun hg => by omega, fun h => h⟩
  · intro j hj
    exact ⟨by omega, fun h => h⟩
end Go.Proofs.Ytecljiefljgfmaa
