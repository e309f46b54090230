/-
  Two devices side by side: the code's Save; all sectors whole.
-/
import Derived.Test.YtecljiefljgfmaaRefLoad3
namespace Go.Proofs.Ytecljiefljgfmaa
open Go.RowKit

theorem flush_len (M : D) : M.flush.2.L.length = M.L.length := by
  unfold D.flush
  split
  · rw [M.burn_L.1]
  · exact app_length _ _
theorem flush_top (M : D) : M.flush.2.C.length ≤ M.C.length := by
  unfold D.flush
  split
  · rw [M.burn_L.2.2]; exact Nat.le_refl _
  · exact Nat.zero_le _
theorem wr_len (M : D) (i : Int) (b : ByteArray) : (M.wr i b).2.L.length = M.L.length ∧ (M.wr i b).2.C.length ≤ M.C.length + 1 := by
  unfold D.wr
  split
  · exact ⟨rfl, Nat.le_succ _⟩
  · split
    · exact ⟨by rw [M.burn_L.1], by rw [M.burn_L.2.2]; omega⟩
    · exact ⟨by show M.burn.2.L.length = _; rw [M.burn_L.1], by show (M.C ++ [(i.toNat, b)]).length ≤ _; simp⟩
theorem fuse_len (M : D) (k : Int) : (M.fuse k).L.length = M.L.length ∧ (M.fuse k).C.length = M.C.length := by
  unfold D.fuse
  split
  · exact ⟨rfl, rfl⟩
  · split <;> exact ⟨rfl, rfl⟩
/-- All sectors have their 256 bytes. -/
structure D.Full (M : D) : Prop where
  l : ∀ x ∈ M.L, x.size = 256
  c : ∀ p ∈ M.C, p.2.size = 256
theorem app_full {L : List ByteArray} {C : List (Nat × ByteArray)} (hl : ∀ x ∈ L, x.size = 256) (hc : ∀ p ∈ C, p.2.size = 256) : ∀ x ∈ app L C, x.size = 256 := by
  induction C generalizing L with
  | nil => exact hl
  | cons p C ih =>
    show ∀ x ∈ app (L.set p.1 p.2) C, x.size = 256
    refine ih ?_ (fun q hq => hc q (List.mem_cons_of_mem _ hq))
    intro x hx
    rcases List.mem_or_eq_of_mem_set hx with h | h
    · exact hl x h
    · rw [h]; exact hc p List.mem_cons_self
theorem kept_sub (keep : List Bool) (C : List (Nat × ByteArray)) : ∀ p ∈ kept keep C, p ∈ C := by
  intro p hp
  simp only [kept, List.mem_map, List.mem_filter] at hp
  obtain ⟨⟨q, i⟩, ⟨h1, _⟩, rfl⟩ := hp
  exact (List.mem_zipIdx h1).2.2 ▸ List.getElem_mem _
theorem D.Full.burn {M : D} (h : M.Full) : M.burn.2.Full := by
  obtain ⟨e1, e2, e3⟩ := M.burn_L
  exact ⟨by rw [e1]; exact h.l, by rw [e3]; exact h.c⟩
theorem D.Full.wr {M : D} (h : M.Full) (i : Int) (b : ByteArray) : (M.wr i b).2.Full := by
  by_cases hs : M.st = 2
  · rw [wr_burnt (.inl hs) (by rw [burn_st2 hs]; decide)]
    exact h.burn
  · by_cases hi : 0 ≤ i ∧ i < (M.S.length : Int) ∧ b.size = 256
    · by_cases hb : M.burn.1 = 0
      · rw [wr_done (.inr hi) hb]
        refine ⟨h.burn.l, ?_⟩
        show ∀ p ∈ M.C ++ [(i.toNat, b)], p.2.size = 256
        intro p hp
        rw [List.mem_append] at hp
        rcases hp with hp | hp
        · exact h.c p hp
        · simp only [List.mem_singleton] at hp
          subst hp
          exact hi.2.2
      · rw [wr_burnt (.inr hi) hb]
        exact h.burn
    · rw [wr_arg hs hi]
      exact h
theorem D.Full.flush {M : D} (h : M.Full) : M.flush.2.Full := by
  unfold D.flush
  split
  · exact h.burn
  · exact ⟨app_full h.l h.c, by intro p hp; simp at hp⟩
theorem D.Full.crash {M : D} (h : M.Full) (keep : List Bool) : (M.crash keep).Full :=
  ⟨app_full h.l (fun p hp => h.c p (kept_sub keep M.C p hp)), by intro p hp; simp [D.crash] at hp⟩
theorem D.Full.fuse {M : D} (h : M.Full) (k : Int) : (M.fuse k).Full := by
  unfold D.fuse
  split
  · exact h
  · split <;> exact ⟨h.l, h.c⟩
theorem blank256 : blank.size = 256 := by unfold blank; decide +kernel
theorem D.Full.new (n : Nat) : (D.new n blank).Full := ⟨by intro x hx; rw [List.eq_of_mem_replicate hx]; exact blank256, by intro p hp; simp [D.new] at hp⟩

theorem wrs_len : ∀ (xs : List ByteArray) (M : D) (p : Nat), (wrs M p xs).2.L.length = M.L.length ∧ (wrs M p xs).2.C.length ≤ M.C.length + xs.length ∧ (M.Full → (wrs M p xs).2.Full)
  | [], _, _ => ⟨rfl, Nat.le_refl _, fun h => h⟩
  | b :: r, M, p => by
    obtain ⟨h1, h2⟩ := wr_len M (p : Int) b
    rw [wrs]
    split
    · exact ⟨h1, by simp only [List.length_cons]; omega, fun h => h.wr _ _⟩
    · obtain ⟨g1, g2, g3⟩ := wrs_len r (M.wr (p : Int) b).2 (p + 1)
      exact ⟨g1.trans h1, by simp only [List.length_cons]; omega, fun h => g3 (h.wr _ _)⟩
theorem wrsF_len (xs : List ByteArray) (M : D) (p : Nat) : (wrsF M p xs).2.L.length = M.L.length ∧ (wrsF M p xs).2.C.length ≤ M.C.length + xs.length ∧ (M.Full → (wrsF M p xs).2.Full) := by
  obtain ⟨h1, h2, h3⟩ := wrs_len xs M p
  rw [wrsF]
  split
  · exact ⟨h1, h2, h3⟩
  · exact ⟨(flush_len _).trans h1, Nat.le_trans (flush_top _) h2, fun h => (h3 h).flush⟩
theorem saveF_len (M : D) (q ep : Nat) (st : List UInt8) : (saveF M q ep st).2.L.length = M.L.length ∧ (saveF M q ep st).2.C.length ≤ M.C.length + (sect st.length + (psecs (headL ep st)).length) ∧ (M.Full → (saveF M q ep st).2.Full) := by
  obtain ⟨h1, h2, h3⟩ := wrsF_len (psecs st) M (q + 1)
  rw [psecs_length] at h2
  rw [saveF]
  split
  · exact ⟨h1, by omega, h3⟩
  · obtain ⟨g1, g2, g3⟩ := wrsF_len (psecs (headL ep st)) (wrsF M (q + 1) (psecs st)).2 q
    exact ⟨g1.trans h1, by omega, fun h => g3 (h3 h)⟩
theorem D.Full.s {M : D} {N : R} (h : M.Full) (hs : Sim M N) : ∀ x ∈ M.S, x.size = 256 := by
  rw [hs.s]; exact app_full h.l h.c

theorem bytes_old {w wr : World} {a : Option Addr} {l : List UInt8} (h3 : Below w.heap.size w wr) (hk : Bytes w a l) : Bytes wr a l ∧ (l ≠ [] → ∀ ad, a = some ad → ad.block < w.heap.size) := by
  rcases hk with rfl | ⟨b, off, rfl, hb', hc⟩
  · exact ⟨.inl rfl, fun h => (h rfl).elim⟩
  · refine ⟨.inr ⟨b, off, rfl, by have := h3.size; omega, fun j hj => (h3.cell (p := ⟨b, off + j, none⟩) hb').trans (hc j hj)⟩, fun _ ad e => ?_⟩
    simp only [Option.some.injEq] at e
    subst e
    exact hb'
theorem p_save {w wr : World} {d r : Nat} {K : Nat → Prop} {M : D} {N : R} (h : Pair w wr d r K M N) (p n ep q : Nat) (a : Option Addr) (st : List UInt8) (cap : Nat) (h1 : 1 ≤ n) (hn : p + 2 * n ≤ M.L.length) (hf : fitsB n st.length = true) (hq : q = p + ep % 2 * n) (hep : ep < 18446744073709551616)
    (hb : Bytes w a st) (hlc : st.length ≤ cap) (hno : a = none → cap = 0) (hC : M.C.length ≤ 10000) :
    Calls Try.prog 31 #[.pointer (some ⟨d, 0, none⟩), .int .i64 (p : Int), .int .i64 (n : Int), .int .u64 (ep : Int), .slice a st.length cap] wr fun e w' => e = .returned (.int .i64 (saveF M q ep st).1) ∧ Pair w w' d r K (saveF M q ep st).2 N ∧ ∀ j, K j → w'.heap[j]? = wr.heap[j]? := by
  obtain ⟨F, G, g1, g2, g3, g4, g5, g6⟩ := h
  obtain ⟨hbr, ha⟩ := bytes_old g6 hb
  refine (save_ok d p n ep q a st cap wr F M g1 h1 hn hf hq hep hbr (fun h0 ad e hf => by have := ha h0 ad e; have := (g3 _ hf).1; omega) hlc hno hC).mono ?_
  rintro e w' ⟨rfl, hD, hT⟩
  exact ⟨rfl, pair_d g2 g3 g4 g5 g6 hD hT⟩

/-- What Save answers, both sides. -/
theorem save_both {w wr : World} {d r : Nat} {K : Nat → Prop} {M : D} {N : R} (h : Pair w wr d r K M N) (hs : Sim M N) (hF : M.Full) (hL : M.L.length ≤ 40) (hC : M.C.length ≤ 5000) (p n : Int) (ep : Nat) (a : Option Addr) (st : List UInt8) (cap : Nat) (hp : -9223372036854775808 ≤ p ∧ p ≤ 9223372036854775807) (hn : n ≤ 9223372036854775807) (hep : ep < 18446744073709551616)
    (hb : Bytes w a st) (hlc : st.length ≤ cap) (hno : a = none → cap = 0) (hl : st.length ≤ 9223372036854775807) : ∃ v M' N', Sim M' N' ∧ M'.Full ∧ M'.L.length = M.L.length ∧ M'.C.length ≤ M.C.length + 60 ∧
    (Calls Try.prog 31 #[.pointer (some ⟨d, 0, none⟩), .int .i64 p, .int .i64 n, .int .u64 (ep : Int), .slice a st.length cap] wr fun e w' => e = .returned (.int .i64 v) ∧ Pair w w' d r K M' N ∧ ∀ j, K j → w'.heap[j]? = wr.heap[j]?) ∧
    ∀ w1, Pair w w1 d r K M' N → Calls Try.prog 32 #[.pointer (some ⟨r, 0, none⟩), .int .i64 p, .int .i64 n, .int .u64 (ep : Int), .slice a st.length cap] w1 fun e w' => e = .returned (.int .i64 v) ∧ Pair w w' d r K M' N' ∧ ∀ j, K j → w'.heap[j]? = w1.heap[j]? := by
  have hNL : N.L.length = M.L.length := by rw [hs.l]
  have hNW : N.W.length = M.C.length := by rw [hs.c]
  cases hr : regB M.L.length p n with
  | false =>
    refine ⟨1, M, N, hs, hF, rfl, by omega, ?_, ?_⟩
    · have h0 := h
      obtain ⟨F, G, g1, _⟩ := h0
      refine (save_arg d p n ep _ wr F M g1 hn hr).mono ?_
      rintro e w' ⟨rfl, rfl⟩
      exact ⟨rfl, h, fun _ _ => rfl⟩
    · intro w1 h1
      refine (rsave_no h1 hs p n ep a st.length cap hl hn hp.2 hp.1 1 (.inl ⟨by rw [hNL]; exact hr, rfl⟩)).mono ?_
      rintro e w' ⟨rfl, hb1⟩
      have h1b := h1.below hb1
      obtain ⟨F, G, _, _, _, _, g5, _⟩ := h1
      exact ⟨rfl, h1b, fun j hj => hb1.block j (g5 j hj)⟩
  | true =>
    have hrb := hr
    simp only [regB, decide_eq_true_eq] at hrb
    obtain ⟨p, rfl⟩ : ∃ k : Nat, p = (k : Int) := ⟨p.toNat, by omega⟩
    obtain ⟨n, rfl⟩ : ∃ k : Nat, n = (k : Int) := ⟨n.toNat, by omega⟩
    cases hf : fitsB n st.length with
    | false =>
      refine ⟨60, M, N, hs, hF, rfl, by omega, ?_, ?_⟩
      · have h0 := h
        obtain ⟨F, G, g1, _⟩ := h0
        refine (save_full d p n ep a st cap wr F M g1 (by omega) (by omega) hl hf).mono ?_
        rintro e w' ⟨rfl, rfl⟩
        exact ⟨rfl, h, fun _ _ => rfl⟩
      · intro w1 h1
        refine (rsave_no h1 hs p n ep a st.length cap hl hn hp.2 hp.1 60 (.inr ⟨by rw [hNL]; exact hr, hf, rfl⟩)).mono ?_
        rintro e w' ⟨rfl, hb1⟩
        have h1b := h1.below hb1
        obtain ⟨F, G, _, _, _, _, g5, _⟩ := h1
        exact ⟨rfl, h1b, fun j hj => hb1.block j (g5 j hj)⟩
    | true =>
      obtain ⟨q, hq⟩ : ∃ q, q = p + ep % 2 * n := ⟨_, rfl⟩
      obtain ⟨e1, e2, _⟩ := sim_save q ep st hs h.ok
      obtain ⟨l1, l2, l3⟩ := saveF_len M q ep st
      have hfn : sect st.length ≤ n - 1 := by
        simp only [fitsB, decide_eq_true_eq, Int.toNat_natCast] at hf
        omega
      refine ⟨(saveF M q ep st).1, (saveF M q ep st).2, (rsaveF N q ep st).2, e2, l3 hF, l1, ?_, p_save h p n ep q a st cap (by omega) (by omega) hf hq hep hb hlc hno (by omega), ?_⟩
      · have h1 : (psecs (headL ep st)).length = 1 := by rw [psecs_length, headL_length]; rfl
        omega
      · intro w1 h1
        rw [e1]
        exact p_rsave h1 p n ep q a st cap (by omega) (by rw [hNL]; exact hr) hf hq hep hb hno (by omega)
end Go.Proofs.Ytecljiefljgfmaa
