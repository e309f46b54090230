/-
  A device and two copies of it, side by side.
-/
import Derived.Test.YthmjejmkkllbaaaOwn
import Derived.Test.YthmjejmkkllbaaaCopy
import Derived.Test.YthmjejmkkllbaaaLastsMath
namespace Go.Proofs.Ythmjejmkkllbaaa
open Go.RowKit

theorem Dev.same {w w' : World} {F : Nat → Prop} {d : Nat} {M : D} (h : Dev w F d M) (hs : ∀ j, F j → j < w'.heap.size) (hh : ∀ j, F j → w'.heap[j]? = w.heap[j]?) : Dev w' F d M := by
  obtain ⟨h0, h1, lv, sv, cv, h2, h3⟩ := h
  exact ⟨h0, hs, lv, sv, cv, h2.other fun k hk => hh k (h3 k hk), h3⟩

/-- The device c may turn; d and v stay as they are. -/
def Tri (w wr : World) (d c v : Nat) (Md Mc Mv : D) : Prop :=
  ∃ K, DL w wr c K Mc ∧ (∃ F, (∀ j, F j → K j) ∧ Dev wr F d Md) ∧ (∃ F, (∀ j, F j → K j) ∧ Dev wr F v Mv) ∧ ∀ j, K j → w.heap.size ≤ j

theorem Tri.old {w wr : World} {d c v : Nat} {Md Mc Mv : D} (h : Tri w wr d c v Md Mc Mv) : Below w.heap.size w wr := by
  obtain ⟨K, hc, _⟩ := h
  exact hc.old
theorem tri_step {w wr w' : World} {d c v : Nat} {Md Mv Mc' : D} {K : Nat → Prop} (hd : ∃ F, (∀ j, F j → K j) ∧ Dev wr F d Md) (hv : ∃ F, (∀ j, F j → K j) ∧ Dev wr F v Mv) (hK : ∀ j, K j → w.heap.size ≤ j)
    (hc : DL w w' c K Mc') (hs : ∀ j, K j → w'.heap[j]? = wr.heap[j]?) : Tri w w' d c v Md Mc' Mv := by
  have hlt : ∀ j, K j → j < w'.heap.size := by
    obtain ⟨_, _, _, _, h4⟩ := hc
    exact h4
  obtain ⟨F, hF, hd⟩ := hd
  obtain ⟨G, hG, hv⟩ := hv
  exact ⟨K, hc, ⟨F, hF, hd.same (fun j hj => hlt j (hF j hj)) fun j hj => hs j (hF j hj)⟩, ⟨G, hG, hv.same (fun j hj => hlt j (hG j hj)) fun j hj => hs j (hG j hj)⟩, hK⟩
theorem Tri.below {w wr w2 : World} {d c v : Nat} {Md Mc Mv : D} (h : Tri w wr d c v Md Mc Mv) (hb : Below wr.heap.size wr w2) : Tri w w2 d c v Md Mc Mv := by
  obtain ⟨K, hc, hd, hv, hK⟩ := h
  have hlt : ∀ j, K j → j < wr.heap.size := by
    obtain ⟨_, _, _, _, h4⟩ := hc
    exact h4
  exact tri_step hd hv hK (hc.below hb) fun j hj => hb.block j (hlt j hj)

theorem dl_copy {w wr : World} {d : Nat} {K : Nat → Prop} {M : D} (h : DL w wr d K M) (hC : M.C.length ≤ 100000) :
    Calls Try.prog 21 #[.pointer (some ⟨d, 0, none⟩)] wr fun e w' => ∃ c, e = .returned (.pointer (some ⟨c, 0, none⟩)) ∧ Dev w' (fun k => wr.heap.size ≤ k ∧ k < w'.heap.size) c M ∧ Below wr.heap.size wr w' := by
  obtain ⟨F, h1, h2, h3, h4⟩ := h
  exact copy_any d wr F M h1 hC

theorem tri_make {w wr w1 w2 : World} {d c v : Nat} {M : D} (h : DL w wr d (fun _ => False) M) (hc : Dev w1 (fun k => wr.heap.size ≤ k ∧ k < w1.heap.size) c M) (b1 : Below wr.heap.size wr w1) (hv : Dev w2 (fun k => w1.heap.size ≤ k ∧ k < w2.heap.size) v M) (b2 : Below w1.heap.size w1 w2) :
    Tri w w2 d c v M M M := by
  obtain ⟨F, h1, h2, h3, h4⟩ := h
  have s1 := h3.size
  have s2 := b1.size
  have s3 := b2.size
  have hF := h1.2.1
  refine ⟨fun j => F j ∨ (w1.heap.size ≤ j ∧ j < w2.heap.size), ⟨_, hc.below b2, ?_, (h3.trans (b1.mono s1)).trans (b2.mono (by omega)), ?_⟩, ⟨F, fun j hj => .inl hj, (h1.below b1).below b2⟩, ⟨_, fun j hj => .inr hj, hv⟩, ?_⟩
  · intro j hj
    refine ⟨by omega, fun hk => ?_⟩
    rcases hk with hk | hk
    · have := hF j hk; omega
    · omega
  · intro j hj
    rcases hj with hj | hj
    · have := hF j hj; omega
    · exact hj.2
  · intro j hj
    rcases hj with hj | hj
    · exact (h2 j hj).1
    · omega

/-- What is asked of the copy that goes on. -/
structure Go1 (M : D) (n : Nat) : Prop where
  st : M.st = 0
  len : M.S.length = 8
  top : M.C.length ≤ n

theorem tri_write {w wr w2 : World} {d c v g cap n : Nat} {Md Mc Mv : D} (i : Int) {l : List UInt8} (h : Tri w wr d c v Md Mc Mv) (hg1 : Go1 Mc n) (hn : n ≤ 1000) (hi0 : 0 ≤ i) (hi8 : i < 8) (hl : l.length = 256) (hb : Below wr.heap.size wr w2) (hg : wr.heap.size ≤ g) (hby : Bytes w2 (some ⟨g, 0, none⟩) l) :
    Calls Try.prog 11 #[.pointer (some ⟨c, 0, none⟩), .int .i64 i, .slice (some ⟨g, 0, none⟩) 256 cap] w2 fun e w' => e = .returned (.int .i64 0) ∧ ∃ Mc', Tri w w' d c v Md Mc' Mv ∧ Go1 Mc' (n + 1) := by
  obtain ⟨K, hc, hd, hv, hK⟩ := h
  have e := wr_unfused hg1.st i (⟨l.toArray⟩ : ByteArray) hi0 (by rw [hg1.len]; exact hi8) (by simp [ByteArray.size, hl])
  refine (dl_write (cap := cap) i hc hl hb hg hby (by have := hg1.top; omega)).mono ?_
  rintro x w' ⟨rfl, h1, h2⟩
  rw [e] at h1
  refine ⟨by rw [e], _, tri_step hd hv hK h1 h2, ?_⟩
  exact ⟨hg1.st, by show (List.set _ _ _).length = 8; rw [List.length_set]; exact hg1.len, by show (Mc.C ++ [(i.toNat, (⟨l.toArray⟩ : ByteArray))]).length ≤ n + 1; rw [List.length_append]; have := hg1.top; simp; omega⟩

theorem tri_fuse {w wr : World} {d c v n : Nat} {Md Mc Mv : D} (h : Tri w wr d c v Md Mc Mv) (hg1 : Go1 Mc n) :
    Calls Try.prog 9 #[.pointer (some ⟨c, 0, none⟩), .int .i64 0] wr fun e w' => e = .returned (.tuple #[]) ∧ Tri w w' d c v Md { Mc with st := 1, k := 0 } Mv := by
  obtain ⟨K, hc, hd, hv, hK⟩ := h
  refine (dl_fuse 0 hc (by omega)).mono ?_
  rintro x w' ⟨rfl, h1, h2⟩
  have e : Mc.fuse 0 = { Mc with st := 1, k := 0 } := by
    rw [D.fuse, if_neg (by rw [hg1.st]; omega), if_neg (by omega)]
  rw [e] at h1
  exact ⟨rfl, tri_step hd hv hK h1 h2⟩
theorem tri_flush {w wr : World} {d c v n : Nat} {Md Mc Mv : D} (h : Tri w wr d c v Md { Mc with st := 1, k := 0 } Mv) (hg1 : Go1 Mc n) (hn : n ≤ 1000) :
    Calls Try.prog 10 #[.pointer (some ⟨c, 0, none⟩)] wr fun e w' => e = .returned (.int .i64 50) ∧ Tri w w' d c v Md { Mc with st := 2, k := 0 } Mv := by
  obtain ⟨K, hc, hd, hv, hK⟩ := h
  refine (dl_flush hc (by show Mc.C.length ≤ _; have := hg1.top; omega)).mono ?_
  rintro x w' ⟨rfl, h1, h2⟩
  have e : D.flush { Mc with st := 1, k := 0 } = (50, { Mc with st := 2, k := 0 }) := by
    have hb : D.burn { Mc with st := 1, k := 0 } = (50, { Mc with st := 2, k := 0 }) := by
      rw [D.burn, if_neg (by simp), if_neg (by simp)]
    rw [D.flush, hb, if_pos (by show (50 : Int) ≠ 0; decide)]
  rw [e] at h1
  exact ⟨by rw [e], tri_step hd hv hK h1 h2⟩
theorem tri_readD {w wr : World} {d c v : Nat} {Md Mc Mv : D} (i : Nat) (h : Tri w wr d c v Md Mc Mv) (hs : Md.st ≠ 2) (hi : i < Md.S.length) :
    Calls Try.prog 14 #[.pointer (some ⟨d, 0, none⟩), .int .i64 (i : Int)] wr fun e w' => ∃ g cap, e = .returned (.tuple #[.slice (some ⟨g, 0, none⟩) Md.S[i].size cap, .int .i64 0]) ∧ Fresh w' g Md.S[i] ∧ wr.heap.size ≤ g ∧ Below wr.heap.size wr w' := by
  obtain ⟨K, hc, ⟨F, _, hd⟩, hv, hK⟩ := h
  exact read_ok d i wr F Md hd hs hi
theorem tri_readV {w wr : World} {d c v : Nat} {Md Mc Mv : D} (i : Nat) (h : Tri w wr d c v Md Mc Mv) (hs : Mv.st ≠ 2) (hi : i < Mv.S.length) :
    Calls Try.prog 14 #[.pointer (some ⟨v, 0, none⟩), .int .i64 (i : Int)] wr fun e w' => ∃ g cap, e = .returned (.tuple #[.slice (some ⟨g, 0, none⟩) Mv.S[i].size cap, .int .i64 0]) ∧ Fresh w' g Mv.S[i] ∧ wr.heap.size ≤ g ∧ Below wr.heap.size wr w' := by
  obtain ⟨K, hc, hd, ⟨F, _, hv⟩, hK⟩ := h
  exact read_ok v i wr F Mv hv hs hi
theorem tri_pendD {w wr : World} {d c v : Nat} {Md Mc Mv : D} (h : Tri w wr d c v Md Mc Mv) :
    Calls Try.prog 23 #[.pointer (some ⟨d, 0, none⟩)] wr fun e w' => e = .returned (.int .i64 (Md.C.length : Int)) ∧ wr = w' := by
  obtain ⟨K, hc, ⟨F, _, hd⟩, hv, hK⟩ := h
  exact pending_any d wr F Md hd
theorem tri_pendV {w wr : World} {d c v : Nat} {Md Mc Mv : D} (h : Tri w wr d c v Md Mc Mv) :
    Calls Try.prog 23 #[.pointer (some ⟨v, 0, none⟩)] wr fun e w' => e = .returned (.int .i64 (Mv.C.length : Int)) ∧ wr = w' := by
  obtain ⟨K, hc, hd, ⟨F, _, hv⟩, hK⟩ := h
  exact pending_any v wr F Mv hv
theorem tri_deadD {w wr : World} {d c v : Nat} {Md Mc Mv : D} (h : Tri w wr d c v Md Mc Mv) :
    Calls Try.prog 13 #[.pointer (some ⟨d, 0, none⟩)] wr fun e w' => e = .returned (.bool (decide (Md.st = 2))) ∧ wr = w' := by
  obtain ⟨K, hc, ⟨F, _, hd⟩, hv, hK⟩ := h
  exact dead_any d wr F Md hd
theorem tri_deadC {w wr : World} {d c v : Nat} {Md Mc Mv : D} (h : Tri w wr d c v Md Mc Mv) :
    Calls Try.prog 13 #[.pointer (some ⟨c, 0, none⟩)] wr fun e w' => e = .returned (.bool (decide (Mc.st = 2))) ∧ wr = w' := by
  obtain ⟨K, hc, hd, hv, hK⟩ := h
  exact dl_dead hc
end Go.Proofs.Ythmjejmkkllbaaa
