/-
  wal.Open by its contract where the place is bad or the device is dead.
-/
import Derived.Test.YtecljiefljgfmaaOpen
import Derived.Test.YtecljiefljgfmaaRun26
import Derived.Test.YtecljiefljgfmaaRefAppend2
import Derived.Test.YtecljiefljgfmaaRefOpen2
namespace Go.Proofs.Ytecljiefljgfmaa
open Go.RowKit

theorem open_arg (d : Nat) (p n : Int) (ep : Nat) (w : World) (F : Nat → Prop) (M : D) (h : Dev w F d M) (hn : n ≤ 9223372036854775807) (hr : wfitB M.L.length p n = false) :
    Calls Try.prog 12 #[.pointer (some ⟨d, 0, none⟩), .int .i64 p, .int .i64 n, .int .u64 (ep : Int)] w fun e w' => e = .returned (.tuple #[.pointer none, .slice none 0 0, .int .i64 1]) ∧ w = w' := by
  by_cases h1 : n < 1
  · clear h hr
    go_enter Try.func12, Try.ntmps12
    go_wp2
    (try simp only [Exit.inBlock, Exit.then])
    refine bodyPost_ret (v := .tuple #[.pointer none, .slice none 0 0, .int .i64 1]) ?_ rfl ⟨rfl, rfl⟩
    simp [results, Try.f12]
  · have hw := within_any d p n w F M h hn
    have hf : witB M.L.length p n = false := by
      simp only [wfitB, decide_eq_false_iff_not] at hr
      simp only [witB, decide_eq_false_iff_not]
      omega
    rw [hf] at hw
    clear h hr hf
    go_enter Try.func12, Try.ntmps12
    go_wp2_with (go_at_call 41; refine Calls.mono hw ?_; rintro e w1 ⟨rfl, rfl⟩)
    (try simp only [Exit.inBlock, Exit.then])
    refine bodyPost_ret (v := .tuple #[.pointer none, .slice none 0 0, .int .i64 1]) ?_ rfl ⟨rfl, rfl⟩
    simp [results, Try.f12]

set_option maxHeartbeats 2000000 in
set_option maxRecDepth 20000 in
theorem open_dead (d p n ep : Nat) (w : World) (F : Nat → Prop) (M : D) (h : Dev w F d M) (hs : M.st = 2) (h1 : 1 ≤ n) (hfit : p + n ≤ M.L.length) (hep : ep < 18446744073709551616) :
    Calls Try.prog 12 #[.pointer (some ⟨d, 0, none⟩), .int .i64 (p : Int), .int .i64 (n : Int), .int .u64 (ep : Int)] w fun e w' => e = .returned (.tuple #[.pointer none, .slice none 0 0, .int .i64 50]) ∧ Below w.heap.size w w' := by
  have hsz := within_yes d p n w F M h hfit
  have htop := h.1.top
  have hni : ¬ (n : Int) < 1 := by omega
  have HFD : Hid (∀ q, Below w.heap.size w q → LogV q w.heap.size d (G.new p n ep) → Calls Try.prog 42 #[.pointer (some ⟨w.heap.size, 0, none⟩)] q fun e w' => e = .returned (.tuple #[.slice none 0 0, .bool false, .int .i64 50]) ∧ Below q.heap.size q w') := fun q hq hl => frame_dead w.heap.size d (G.new p n ep) q F M (h.below hq) hl ⟨by simp [G.new], by show p + n ≤ 4096; omega, hep, by simp [G.new]⟩ hs (by show ¬ p + n - p < 1; omega)
  have hpn : p + n ≤ 4096 := by omega
  clear h hs hfit htop
  go_enter Try.func12, Try.ntmps12
  go_wp2_with (go_at_call 41; refine Calls.mono hsz ?_; rintro e w1 ⟨rfl, rfl⟩)
  obtain ⟨W, hW⟩ : ∃ W, W = w.alloc (.cells #[.pointer (some ⟨d, 0, none⟩), .int .i64 (p : Int), .int .i64 ((p : Int) + (n : Int)), .int .u64 (ep : Int), .int .u64 0, .bool false] 88) := ⟨_, rfl⟩
  have hL : LogV W w.heap.size d (G.new p n ep) := by
    have := heap_alloc_new w (.cells #[.pointer (some ⟨d, 0, none⟩), .int .i64 (p : Int), .int .i64 ((p : Int) + (n : Int)), .int .u64 (ep : Int), .int .u64 0, .bool false] 88)
    rw [hW, LogV, G.new]
    simpa using this
  have hB : Below w.heap.size w W := by rw [hW]; exact (Below.refl _ _).alloc (Nat.le_refl _) _
  rw [← hW]
  have hfd := HFD.out W hB hL
  have HB : Hid (Below w.heap.size w W) := hB
  clear hW hL hB HFD hsz
  go_loopw [12] (fun v wq => v = .slice none 0 0 ∧ wq = W) (fun _ _ => 0)
  case atStart => exact ⟨rfl, rfl⟩
  case round =>
    obtain ⟨rfl, rfl⟩ := hrel
    go_wp2_with (go_at_call 42; refine Calls.mono hfd ?_; rintro e w2 ⟨rfl, hb2⟩)
    (try simp only [Exit.inBlock, Exit.then])
    refine bodyPost_ret (v := .tuple #[.pointer none, .slice none 0 0, .int .i64 50]) ?_ rfl ⟨rfl, HB.out.trans (hb2.mono HB.out.size)⟩
    simp [results, Try.f12]
end Go.Proofs.Ytecljiefljgfmaa
/-
  Two devices side by side: the code's Save; all sectors whole.
-/
namespace Go.Proofs.Ytecljiefljgfmaa
open Go.RowKit

theorem flush_len (M : D) : M.flush.2.L.length = M.L.length := by
  unfold D.flush
  split
  · rw [M.burn_L.1]
  · exact app_length _ _
theorem flush_top (M : D) : M.flush.2.C.length ≤ M.C.length := by
  unfold D.flush
  split
  · rw [M.burn_L.2.2]; exact Nat.le_refl _
  · exact Nat.zero_le _
theorem wr_len (M : D) (i : Int) (b : ByteArray) : (M.wr i b).2.L.length = M.L.length ∧ (M.wr i b).2.C.length ≤ M.C.length + 1 := by
  unfold D.wr
  split
  · exact ⟨rfl, Nat.le_succ _⟩
  · split
    · exact ⟨by rw [M.burn_L.1], by rw [M.burn_L.2.2]; omega⟩
    · exact ⟨by show M.burn.2.L.length = _; rw [M.burn_L.1], by show (M.C ++ [(i.toNat, b)]).length ≤ _; simp⟩
theorem fuse_len (M : D) (k : Int) : (M.fuse k).L.length = M.L.length ∧ (M.fuse k).C.length = M.C.length := by
  unfold D.fuse
  split
  · exact ⟨rfl, rfl⟩
  · split <;> exact ⟨rfl, rfl⟩
/-- All sectors have their 256 bytes. -/
structure D.Full (M : D) : Prop where
  l : ∀ x ∈ M.L, x.size = 256
  c : ∀ p ∈ M.C, p.2.size = 256
theorem app_full {L : List ByteArray} {C : List (Nat × ByteArray)} (hl : ∀ x ∈ L, x.size = 256) (hc : ∀ p ∈ C, p.2.size = 256) : ∀ x ∈ app L C, x.size = 256 := by
  induction C generalizing L with
  | nil => exact hl
  | cons p C ih =>
    show ∀ x ∈ app (L.set p.1 p.2) C, x.size = 256
    refine ih ?_ (fun q hq => hc q (List.mem_cons_of_mem _ hq))
    intro x hx
    rcases List.mem_or_eq_of_mem_set hx with h | h
    · exact hl x h
    · rw [h]; exact hc p List.mem_cons_self
theorem kept_sub (keep : List Bool) (C : List (Nat × ByteArray)) : ∀ p ∈ kept keep C, p ∈ C := by
  intro p hp
  simp only [kept, List.mem_map, List.mem_filter] at hp
  obtain ⟨⟨q, i⟩, ⟨h1, _⟩, rfl⟩ := hp
  exact (List.mem_zipIdx h1).2.2 ▸ List.getElem_mem _
theorem D.Full.burn {M : D} (h : M.Full) : M.burn.2.Full := by
  obtain ⟨e1, e2, e3⟩ := M.burn_L
  exact ⟨by rw [e1]; exact h.l, by rw [e3]; exact h.c⟩
theorem D.Full.wr {M : D} (h : M.Full) (i : Int) (b : ByteArray) : (M.wr i b).2.Full := by
  by_cases hs : M.st = 2
  · rw [wr_burnt (.inl hs) (by rw [burn_st2 hs]; decide)]
    exact h.burn
  · by_cases hi : 0 ≤ i ∧ i < (M.S.length : Int) ∧ b.size = 256
    · by_cases hb : M.burn.1 = 0
      · rw [wr_done (.inr hi) hb]
        refine ⟨h.burn.l, ?_⟩
        show ∀ p ∈ M.C ++ [(i.toNat, b)], p.2.size = 256
        intro p hp
        rw [List.mem_append] at hp
        rcases hp with hp | hp
        · exact h.c p hp
        · simp only [List.mem_singleton] at hp
          subst hp
          exact hi.2.2
      · rw [wr_burnt (.inr hi) hb]
        exact h.burn
    · rw [wr_arg hs hi]
      exact h
theorem D.Full.flush {M : D} (h : M.Full) : M.flush.2.Full := by
  unfold D.flush
  split
  · exact h.burn
  · exact ⟨app_full h.l h.c, by intro p hp; simp at hp⟩
theorem D.Full.crash {M : D} (h : M.Full) (keep : List Bool) : (M.crash keep).Full :=
  ⟨app_full h.l (fun p hp => h.c p (kept_sub keep M.C p hp)), by intro p hp; simp [D.crash] at hp⟩
theorem D.Full.fuse {M : D} (h : M.Full) (k : Int) : (M.fuse k).Full := by
  unfold D.fuse
  split
  · exact h
  · split <;> exact ⟨h.l, h.c⟩
theorem blank256 : blank.size = 256 := by unfold blank; decide +kernel
theorem D.Full.new (n : Nat) : (D.new n blank).Full := ⟨by intro x hx; rw [List.eq_of_mem_replicate hx]; exact blank256, by intro p hp; simp [D.new] at hp⟩

theorem wrs_len : ∀ (xs : List ByteArray) (M : D) (p : Nat), (wrs M p xs).2.L.length = M.L.length ∧ (wrs M p xs).2.C.length ≤ M.C.length + xs.length ∧ (M.Full → (wrs M p xs).2.Full)
  | [], _, _ => ⟨rfl, Nat.le_refl _, fun h => h⟩
  | b :: r, M, p => by
    obtain ⟨h1, h2⟩ := wr_len M (p : Int) b
    rw [wrs]
    split
    · exact ⟨h1, by simp only [List.length_cons]; omega, fun h => h.wr _ _⟩
    · obtain ⟨g1, g2, g3⟩ := wrs_len r (M.wr (p : Int) b).2 (p + 1)
      exact ⟨g1.trans h1, by simp only [List.length_cons]; omega, fun h => g3 (h.wr _ _)⟩
theorem wrsF_len (xs : List ByteArray) (M : D) (p : Nat) : (wrsF M p xs).2.L.length = M.L.length ∧ (wrsF M p xs).2.C.length ≤ M.C.length + xs.length ∧ (M.Full → (wrsF M p xs).2.Full) := by
  obtain ⟨h1, h2, h3⟩ := wrs_len xs M p
  rw [wrsF]
  split
  · exact ⟨h1, h2, h3⟩
  · exact ⟨(flush_len _).trans h1, Nat.le_trans (flush_top _) h2, fun h => (h3 h).flush⟩
theorem saveF_len (M : D) (q ep : Nat) (st : List UInt8) : (saveF M q ep st).2.L.length = M.L.length ∧ (saveF M q ep st).2.C.length ≤ M.C.length + (sect st.length + (psecs (headL ep st)).length) ∧ (M.Full → (saveF M q ep st).2.Full) := by
  obtain ⟨h1, h2, h3⟩ := wrsF_len (psecs st) M (q + 1)
  rw [psecs_length] at h2
  rw [saveF]
  split
  · exact ⟨h1, by omega, h3⟩
  · obtain ⟨g1, g2, g3⟩ := wrsF_len (psecs (headL ep st)) (wrsF M (q + 1) (psecs st)).2 q
    exact ⟨g1.trans h1, by omega, fun h => g3 (h3 h)⟩
theorem D.Full.s {M : D} {N : R} (h : M.Full) (hs : Sim M N) : ∀ x ∈ M.S, x.size = 256 := by
  rw [hs.s]; exact app_full h.l h.c

theorem bytes_old {w wr : World} {a : Option Addr} {l : List UInt8} (h3 : Below w.heap.size w wr) (hk : Bytes w a l) : Bytes wr a l ∧ (l ≠ [] → ∀ ad, a = some ad → ad.block < w.heap.size) := by
  rcases hk with rfl | ⟨b, off, rfl, hb', hc⟩
  · exact ⟨.inl rfl, fun h => (h rfl).elim⟩
  · refine ⟨.inr ⟨b, off, rfl, by have := h3.size; omega, fun j hj => (h3.cell (p := ⟨b, off + j, none⟩) hb').trans (hc j hj)⟩, fun _ ad e => ?_⟩
    simp only [Option.some.injEq] at e
    subst e
    exact hb'
theorem p_save {w wr : World} {d r : Nat} {K : Nat → Prop} {M : D} {N : R} (h : Pair w wr d r K M N) (p n ep q : Nat) (a : Option Addr) (st : List UInt8) (cap : Nat) (h1 : 1 ≤ n) (hn : p + 2 * n ≤ M.L.length) (hf : fitsB n st.length = true) (hq : q = p + ep % 2 * n) (hep : ep < 18446744073709551616)
    (hb : Bytes w a st) (hlc : st.length ≤ cap) (hno : a = none → cap = 0) (hC : M.C.length ≤ 10000) :
    Calls Try.prog 31 #[.pointer (some ⟨d, 0, none⟩), .int .i64 (p : Int), .int .i64 (n : Int), .int .u64 (ep : Int), .slice a st.length cap] wr fun e w' => e = .returned (.int .i64 (saveF M q ep st).1) ∧ Pair w w' d r K (saveF M q ep st).2 N ∧ ∀ j, K j → w'.heap[j]? = wr.heap[j]? := by
  obtain ⟨F, G, g1, g2, g3, g4, g5, g6⟩ := h
  obtain ⟨hbr, ha⟩ := bytes_old g6 hb
  refine (save_ok d p n ep q a st cap wr F M g1 h1 hn hf hq hep hbr (fun h0 ad e hf => by have := ha h0 ad e; have := (g3 _ hf).1; omega) hlc hno hC).mono ?_
  rintro e w' ⟨rfl, hD, hT⟩
  exact ⟨rfl, pair_d g2 g3 g4 g5 g6 hD hT⟩

/-- What Save answers, both sides. -/
theorem save_both {w wr : World} {d r : Nat} {K : Nat → Prop} {M : D} {N : R} (h : Pair w wr d r K M N) (hs : Sim M N) (hF : M.Full) (hL : M.L.length ≤ 40) (hC : M.C.length ≤ 5000) (p n : Int) (ep : Nat) (a : Option Addr) (st : List UInt8) (cap : Nat) (hp : -9223372036854775808 ≤ p ∧ p ≤ 9223372036854775807) (hn : n ≤ 9223372036854775807) (hep : ep < 18446744073709551616)
    (hb : Bytes w a st) (hlc : st.length ≤ cap) (hno : a = none → cap = 0) (hl : st.length ≤ 9223372036854775807) : ∃ v M' N', Sim M' N' ∧ M'.Full ∧ M'.L.length = M.L.length ∧ M'.C.length ≤ M.C.length + 60 ∧
    (Calls Try.prog 31 #[.pointer (some ⟨d, 0, none⟩), .int .i64 p, .int .i64 n, .int .u64 (ep : Int), .slice a st.length cap] wr fun e w' => e = .returned (.int .i64 v) ∧ Pair w w' d r K M' N ∧ ∀ j, K j → w'.heap[j]? = wr.heap[j]?) ∧
    ∀ w1, Pair w w1 d r K M' N → Calls Try.prog 32 #[.pointer (some ⟨r, 0, none⟩), .int .i64 p, .int .i64 n, .int .u64 (ep : Int), .slice a st.length cap] w1 fun e w' => e = .returned (.int .i64 v) ∧ Pair w w' d r K M' N' ∧ ∀ j, K j → w'.heap[j]? = w1.heap[j]? := by
  have hNL : N.L.length = M.L.length := by rw [hs.l]
  have hNW : N.W.length = M.C.length := by rw [hs.c]
  cases hr : regB M.L.length p n with
  | false =>
    refine ⟨1, M, N, hs, hF, rfl, by omega, ?_, ?_⟩
    · have h0 := h
      obtain ⟨F, G, g1, _⟩ := h0
      refine (save_arg d p n ep _ wr F M g1 hn hr).mono ?_
      rintro e w' ⟨rfl, rfl⟩
      exact ⟨rfl, h, fun _ _ => rfl⟩
    · intro w1 h1
      refine (rsave_no h1 hs p n ep a st.length cap hl hn hp.2 hp.1 1 (.inl ⟨by rw [hNL]; exact hr, rfl⟩)).mono ?_
      rintro e w' ⟨rfl, hb1⟩
      have h1b := h1.below hb1
      obtain ⟨F, G, _, _, _, _, g5, _⟩ := h1
      exact ⟨rfl, h1b, fun j hj => hb1.block j (g5 j hj)⟩
  | true =>
    have hrb := hr
    simp only [regB, decide_eq_true_eq] at hrb
    obtain ⟨p, rfl⟩ : ∃ k : Nat, p = (k : Int) := ⟨p.toNat, by omega⟩
    obtain ⟨n, rfl⟩ : ∃ k : Nat, n = (k : Int) := ⟨n.toNat, by omega⟩
    cases hf : fitsB n st.length with
    | false =>
      refine ⟨60, M, N, hs, hF, rfl, by omega, ?_, ?_⟩
      · have h0 := h
        obtain ⟨F, G, g1, _⟩ := h0
        refine (save_full d p n ep a st cap wr F M g1 (by omega) (by omega) hl hf).mono ?_
        rintro e w' ⟨rfl, rfl⟩
        exact ⟨rfl, h, fun _ _ => rfl⟩
      · intro w1 h1
        refine (rsave_no h1 hs p n ep a st.length cap hl hn hp.2 hp.1 60 (.inr ⟨by rw [hNL]; exact hr, hf, rfl⟩)).mono ?_
        rintro e w' ⟨rfl, hb1⟩
        have h1b := h1.below hb1
        obtain ⟨F, G, _, _, _, _, g5, _⟩ := h1
        exact ⟨rfl, h1b, fun j hj => hb1.block j (g5 j hj)⟩
    | true =>
      obtain ⟨q, hq⟩ : ∃ q, q = p + ep % 2 * n := ⟨_, rfl⟩
      obtain ⟨e1, e2, _⟩ := sim_save q ep st hs h.ok
      obtain ⟨l1, l2, l3⟩ := saveF_len M q ep st
      have hfn : sect st.length ≤ n - 1 := by
        simp only [fitsB, decide_eq_true_eq, Int.toNat_natCast] at hf
        omega
      refine ⟨(saveF M q ep st).1, (saveF M q ep st).2, (rsaveF N q ep st).2, e2, l3 hF, l1, ?_, p_save h p n ep q a st cap (by omega) (by omega) hf hq hep hb hlc hno (by omega), ?_⟩
      · have h1 : (psecs (headL ep st)).length = 1 := by rw [psecs_length, headL_length]; rfl
        omega
      · intro w1 h1
        rw [e1]
        exact p_rsave h1 p n ep q a st cap (by omega) (by rw [hNL]; exact hr) hf hq hep hb hno (by omega)
end Go.Proofs.Ytecljiefljgfmaa
/-
  Two devices side by side, each with its log: what Append and Open answer on both sides.
-/
namespace Go.Proofs.Ytecljiefljgfmaa
open Go.RowKit

theorem strs_old {w wr : World} {a : Option Addr} {L : List ByteArray} (h3 : Below w.heap.size w wr) (hk : Strs w a L) : Strs wr a L ∧ (L ≠ [] → ∀ ad, a = some ad → ad.block < w.heap.size) := by
  rcases hk with rfl | ⟨b, off, rfl, hb', hc⟩
  · exact ⟨.inl rfl, fun h => (h rfl).elim⟩
  · refine ⟨.inr ⟨b, off, rfl, by have := h3.size; omega, fun j hj => (h3.cell (p := ⟨b, off + j, none⟩) hb').trans (hc j hj)⟩, fun _ ad e => ?_⟩
    simp only [Option.some.injEq] at e
    subst e
    exact hb'

theorem p_append {w wr : World} {d r l : Nat} {K : Nat → Prop} {M : D} {N : R} (h : Pair w wr d r K M N) (hK : K l) (hw : w.heap.size ≤ l) (g : G) (hL : LogV wr l d g) (hok : g.Ok) (a : Option Addr) (L : List ByteArray) (cap : Nat) (hs : Strs w a L) (ht : tot L ≤ 8388608) (hC : M.C.length ≤ 80000) :
    Calls Try.prog 15 #[.pointer (some ⟨l, 0, none⟩), .slice a L.length cap] wr fun e w' => e = .returned (.int .i64 (apF M g L).1) ∧ Pair w w' d r K (apF M g L).2.1 N ∧ LogV w' l d (apF M g L).2.2 ∧ ∀ j, K j → j ≠ l → w'.heap[j]? = wr.heap[j]? := by
  obtain ⟨F, G, h1, h2, h3, h4, h5, h6⟩ := h
  obtain ⟨hsr, ha⟩ := strs_old h6 hs
  refine (append_any l d g a L cap wr F M h1 hL hok (fun hf => (h3 _ hf).2.2 hK) hsr (fun hn ad e hf => by have := ha hn ad e; have := (h3 _ hf).1; omega) (by omega) hC).mono ?_
  rintro e w' ⟨rfl, hD, hL', hT⟩
  have s1 := h6.size
  have s2 := hT.size
  refine ⟨rfl, ⟨_, G, hD, h2.other hT (fun k hk e => by
    rcases e with e | e
    · exact (h3 k e).2.1 hk
    · exact (h4 k hk).2 (e ▸ hK)), ?_, h4, fun j hj => by have := h5 j hj; omega, h6.trans (hT.below (fun k hk => by
    rcases hk with hk | hk
    · exact (h3 k hk).1
    · rw [hk]; exact hw) s1)⟩, hL', fun j hj hn => hT.block j (h5 j hj) (fun e => by
    rcases e with e | e
    · exact (h3 j e).2.2 hj
    · exact hn e)⟩
  intro j hj
  rcases hj with hj | hj
  · exact h3 j hj
  · refine ⟨by omega, fun hg => ?_, fun hk => ?_⟩
    · have := h2.2.1 j hg; omega
    · have := h5 j hk; omega

theorem behind_len (P : List UInt8) (n : Nat) (b : Bool) : (behind P n b).length ≤ n + 1 := by
  rw [behind, List.length_append, List.length_drop, fsecs_len]
  cases b
  · simp only [Bool.false_eq_true, if_false, List.length_nil]; omega
  · simp only [if_true, List.length_cons, List.length_nil]; omega
theorem layF_len (M : D) (g : G) (P : List UInt8) (n : Nat) : (layF M g P n).2.L.length = M.L.length ∧ (layF M g P n).2.C.length ≤ M.C.length + (n + 2) ∧ (M.Full → (layF M g P n).2.Full) := by
  obtain ⟨h1, h2, h3⟩ := wrsF_len (behind P n (decide (n < g.fin - g.at'))) M (g.at' + 1)
  have hb := behind_len P n (decide (n < g.fin - g.at'))
  rw [layF]
  split
  · exact ⟨h1, by omega, h3⟩
  · obtain ⟨g1, g2, g3⟩ := wrsF_len [fsecB P 0] (wrsF M (g.at' + 1) (behind P n (decide (n < g.fin - g.at')))).2 g.at'
    simp only [List.length_cons, List.length_nil] at g2
    exact ⟨g1.trans h1, by omega, fun h => g3 (h3 h)⟩

/-- A log that stands on n sectors from p on. -/
structure G.On (g : G) (p n : Nat) : Prop where
  ok : g.Ok
  fin : g.fin = p + n
  le : p ≤ g.at'
  nx : g.nx ≤ g.at'
theorem G.On.eta {g : G} {p n : Nat} (h : g.On p n) : g = ⟨p + (g.at' - p), p + n, g.ep, g.nx, g.fl⟩ := by
  have h1 := h.le
  have h2 := h.fin
  cases g
  simp only at h1 h2 ⊢
  rw [h2, show p + (_ - p) = _ from Nat.add_sub_cancel' h1]
theorem G.On.pass {g : G} {p n : Nat} (h : g.On p n) {L : List ByteArray} (hf : ¬ g.fin - g.at' < needN L) : (g.pass L).On p n := by
  have h1 := h.ok.le
  have h2 := h.ok.top
  have h3 := h.le
  have h4 := h.nx
  have h5 := need_pos L
  exact ⟨⟨by show g.at' + needN L ≤ g.fin; omega, h2, h.ok.ep, by show g.nx + 1 < 4294967296; omega⟩, h.fin, by show p ≤ g.at' + needN L; omega, by show g.nx + 1 ≤ g.at' + needN L; omega⟩
theorem frs_on {S : List ByteArray} (hS : ∀ x ∈ S, x.size = 256) {p n : Nat} (hn : p + n ≤ S.length) : ∀ (f : Nat) (g : G), g.On p n → (frs f S g).2.On p n ∧ (frs f S g).2.fl = g.fl ∧ (frs f S g).2.ep = g.ep ∧ (∀ L ∈ (frs f S g).1, tot L ≤ 1048576) ∧ (frs f S g).1.length ≤ f
  | 0, g, h => ⟨h, rfl, rfl, by intro L hL; simp [frs] at hL, Nat.zero_le _⟩
  | f + 1, g, h => by
    cases hf : fr S g with
    | none => rw [frs_none f hf]; exact ⟨h, rfl, rfl, by intro L hL; simp at hL, Nat.zero_le _⟩
    | some L =>
      obtain ⟨q1, q2, q3⟩ := fr_some hS (by rw [h.fin]; exact hn) hf
      have hp := h.pass (L := L) (by omega)
      obtain ⟨i1, i2, i3, i4, i5⟩ := frs_on hS hn f (g.pass L) hp
      rw [frs_some f hf]
      refine ⟨i1, i2, i3, ?_, by simp only [List.length_cons]; omega⟩
      intro L' hL'
      rcases List.mem_cons.1 hL' with e | e
      · have := h.ok.top; rw [e]; omega
      · exact i4 L' e

/-- What Append answers, both sides. -/
theorem append_both {w wr : World} {d r l m : Nat} {K : Nat → Prop} {M : D} {N : R} (h : Pair w wr d r K M N) (hs : Sim M N) (hF : M.Full) (hC : M.C.length ≤ 5000) (hKl : K l) (hKm : K m) (hwl : w.heap.size ≤ l) (hwm : w.heap.size ≤ m) (g : G) (p n : Nat) (hg : g.On p n) (hn : n ≤ 64) (hL : LogV wr l d g) (a : Option Addr) (L : List ByteArray) (cap : Nat) (hst : Strs w a L) (ht : tot L ≤ 8388608) :
    ∃ v M' N' g', Sim M' N' ∧ M'.Full ∧ M'.L.length = M.L.length ∧ M'.C.length ≤ M.C.length + 70 ∧ g'.On p n ∧
    (Calls Try.prog 15 #[.pointer (some ⟨l, 0, none⟩), .slice a L.length cap] wr fun e w' => e = .returned (.int .i64 v) ∧ Pair w w' d r K M' N ∧ LogV w' l d g' ∧ ∀ j, K j → j ≠ l → w'.heap[j]? = wr.heap[j]?) ∧
    ∀ w1, Pair w w1 d r K M' N → RLogG w1 m r p n g → Calls Try.prog 16 #[.pointer (some ⟨m, 0, none⟩), .slice a L.length cap] w1 fun e w' => e = .returned (.int .i64 v) ∧ Pair w w' d r K M' N' ∧ RLogG w' m r p n g' ∧ ∀ j, K j → j ≠ m → w'.heap[j]? = w1.heap[j]? := by
  have hNW : N.W.length = M.C.length := by rw [hs.c]
  have hca := p_append h hKl hwl g hL hg.ok a L cap hst ht (by omega)
  have hfin := hg.fin
  have hgle := hg.le
  have hgok := hg.ok.le
  have hgtop := hg.ok.top
  have hkeep : ∀ w1 w' : World, Pair w w1 d r K M N → Below w1.heap.size w1 w' → ∀ j, K j → w'.heap[j]? = w1.heap[j]? := by
    intro w1 w' h1 hb j hj
    obtain ⟨F, G, _, _, _, _, h5, _⟩ := h1
    exact hb.block j (h5 j hj)
  by_cases hfl : g.fl = true
  · have e1 : apF M g L = (50, M, g) := by rw [apF, if_pos hfl]
    rw [e1] at hca
    refine ⟨50, M, N, g, hs, hF, rfl, by omega, hg, hca, fun w1 h1 hm => ?_⟩
    have hm' : RLog w1 m r p n g.ep g.nx (g.at' - p) g.fl := hm
    rw [hfl] at hm'
    refine (rappend_no p n g.ep g.nx (g.at' - p) true hm' (by omega) (by omega) a L cap (strs_old h1.old hst).1 ht 50 (.inl ⟨rfl, rfl⟩)).mono ?_
    rintro e w' ⟨rfl, hb⟩
    have hk := hkeep w1 w' h1 hb
    exact ⟨rfl, h1.below hb, (hk m hKm).trans hm, fun j hj _ => hk j hj⟩
  · have hflf : g.fl = false := by simpa using hfl
    by_cases hful : g.fin - g.at' < needN L
    · have e1 : apF M g L = (60, M, g) := by rw [apF, if_neg hfl, if_pos hful]
      rw [e1] at hca
      refine ⟨60, M, N, g, hs, hF, rfl, by omega, hg, hca, fun w1 h1 hm => ?_⟩
      have hm' : RLog w1 m r p n g.ep g.nx (g.at' - p) g.fl := hm
      rw [hflf] at hm'
      refine (rappend_no p n g.ep g.nx (g.at' - p) false hm' (by omega) (by omega) a L cap (strs_old h1.old hst).1 ht 60 (.inr ⟨rfl, by omega, rfl⟩)).mono ?_
      rintro e w' ⟨rfl, hb⟩
      have hk := hkeep w1 w' h1 hb
      exact ⟨rfl, h1.below hb, (hk m hKm).trans hm, fun j hj _ => hk j hj⟩
    · have heta := hg.eta
      rw [hflf] at heta
      obtain ⟨z1, z2, z3⟩ := sim_lay g (padB g L) (needN L) hs h.ok
      obtain ⟨l1, l2, l3⟩ := layF_len M g (padB g L) (needN L)
      have hdoc : ∀ M' w1, Pair w w1 d r K M' N → RLogG w1 m r p n g → Calls Try.prog 16 #[.pointer (some ⟨m, 0, none⟩), .slice a L.length cap] w1 fun e w' => RAp w w1 d r m p n K M' (rapF N g L) e w' := fun M' w1 h1 hm => by
        have hm' : RLog w1 m r p n g.ep g.nx (g.at' - p) g.fl := hm
        rw [hflf] at hm'
        have := rappend_go h1 p n g.ep g.nx (g.at' - p) hKm hwm hm' (by omega) (by omega) hg.ok.ep hg.ok.nx a L cap (strs_old h1.old hst).1 ht (by omega) (by omega)
        rw [← heta] at this
        exact this
      by_cases h0 : (layF M g (padB g L) (needN L)).1 = 0
      · have e1 : apF M g L = (0, (layF M g (padB g L) (needN L)).2, g.pass L) := by rw [apF, if_neg hfl, if_neg hful, if_neg (by simpa using h0)]
        have e2 : rapF N g L = (0, (rlayF N g (padB g L) (needN L)).2, g.pass L) := by rw [rapF, if_neg hfl, if_neg hful, if_neg (by rw [← z1]; simpa using h0)]
        rw [e1] at hca
        refine ⟨0, _, _, g.pass L, z2, l3 hF, l1, by omega, hg.pass hful, hca, fun w1 h1 hm => ?_⟩
        have := hdoc _ w1 h1 hm
        rw [e2] at this
        exact this
      · have e1 : apF M g L = ((layF M g (padB g L) (needN L)).1, (layF M g (padB g L) (needN L)).2, { g with fl := true }) := by rw [apF, if_neg hfl, if_neg hful, if_pos h0]
        have e2 : rapF N g L = ((layF M g (padB g L) (needN L)).1, (rlayF N g (padB g L) (needN L)).2, { g with fl := true }) := by rw [rapF, if_neg hfl, if_neg hful, if_pos (by rw [← z1]; exact h0), z1]
        rw [e1] at hca
        refine ⟨_, _, _, { g with fl := true }, z2, l3 hF, l1, by omega, ⟨⟨hg.ok.le, hg.ok.top, hg.ok.ep, hg.ok.nx⟩, hg.fin, hg.le, hg.nx⟩, hca, fun w1 h1 hm => ?_⟩
        have := hdoc _ w1 h1 hm
        rw [e2] at this
        exact this

/-- What Open answers, both sides: nothing, or a log. -/
theorem open_both {w wr : World} {d r : Nat} {K : Nat → Prop} {M : D} {N : R} (h : Pair w wr d r K M N) (hs : Sim M N) (hF : M.Full) (hC : M.C.length ≤ 5000) (p n : Int) (ep : Nat) (hp : -9223372036854775808 ≤ p ∧ p ≤ 9223372036854775807) (hn : n ≤ 9223372036854775807) (hep : ep < 18446744073709551616) :
    (∃ ev : Int, ev ≠ 0 ∧ (Calls Try.prog 12 #[.pointer (some ⟨d, 0, none⟩), .int .i64 p, .int .i64 n, .int .u64 (ep : Int)] wr fun e w' => e = .returned (.tuple #[.pointer none, .slice none 0 0, .int .i64 ev]) ∧ Below wr.heap.size wr w') ∧
      ∀ w1, Below wr.heap.size wr w1 → Calls Try.prog 13 #[.pointer (some ⟨r, 0, none⟩), .int .i64 p, .int .i64 n, .int .u64 (ep : Int)] w1 fun e w' => e = .returned (.tuple #[.pointer none, .slice none 0 0, .int .i64 ev]) ∧ Below w1.heap.size w1 w') ∨
    (∃ (pn nn : Nat) (LL : List (List ByteArray)) (g : G), p = (pn : Int) ∧ n = (nn : Int) ∧ pn + nn ≤ M.L.length ∧ g.On pn nn ∧ LL.length ≤ 5000 ∧ (∀ L ∈ LL, tot L ≤ 1048576) ∧
      (Calls Try.prog 12 #[.pointer (some ⟨d, 0, none⟩), .int .i64 p, .int .i64 n, .int .u64 (ep : Int)] wr fun e w' => ∃ l v, e = .returned (.tuple #[.pointer (some ⟨l, 0, none⟩), v, .int .i64 0]) ∧ LogV w' l d g ∧ Fms w' wr.heap.size v LL ∧ wr.heap.size ≤ l ∧ l < w'.heap.size ∧ Below wr.heap.size wr w') ∧
      ∀ w1, Below wr.heap.size wr w1 → Calls Try.prog 13 #[.pointer (some ⟨r, 0, none⟩), .int .i64 p, .int .i64 n, .int .u64 (ep : Int)] w1 fun e w' => ∃ m v, e = .returned (.tuple #[.pointer (some ⟨m, 0, none⟩), v, .int .i64 0]) ∧ RLogG w' m r pn nn g ∧ Fms w' w1.heap.size v LL ∧ w1.heap.size ≤ m ∧ m < w'.heap.size ∧ Below w1.heap.size w1 w') := by
  have hNL : N.L.length = M.L.length := by rw [hs.l]
  have hNW : N.W.length = M.C.length := by rw [hs.c]
  have htop := h.ok.top
  have hlen := h.ok.len
  have h0 := h
  obtain ⟨F, GF, g1, _⟩ := h0
  cases hr : wfitB M.L.length p n with
  | false =>
    left
    refine ⟨1, by decide, ?_, fun w1 h1 => ?_⟩
    · refine (open_arg d p n ep wr F M g1 hn hr).mono ?_
      rintro e w' ⟨rfl, rfl⟩
      exact ⟨rfl, Below.refl _ _⟩
    · exact ropen_arg (h.below h1) hs p n ep hn hp.2 hp.1 (by rw [hNL]; exact hr)
  | true =>
    have hrb := hr
    simp only [wfitB, decide_eq_true_eq] at hrb
    obtain ⟨p, rfl⟩ : ∃ k : Nat, p = (k : Int) := ⟨p.toNat, by omega⟩
    obtain ⟨n, rfl⟩ : ∃ k : Nat, n = (k : Int) := ⟨n.toNat, by omega⟩
    by_cases hst : M.st = 2
    · left
      exact ⟨50, by decide, open_dead d p n ep wr F M g1 hst (by omega) (by omega) hep, fun w1 h1 => ropen_dead (h.below h1) hs hst (by omega) p n ep (by rw [hNL]; exact hr)⟩
    · right
      have hS := hF.s hs
      have hon : (G.new p n ep).On p n := ⟨⟨by simp [G.new], by show p + n ≤ 4096; omega, hep, by simp [G.new]⟩, rfl, Nat.le_refl _, Nat.zero_le _⟩
      obtain ⟨i1, i2, i3, i4, i5⟩ := frs_on hS (p := p) (n := n) (by omega) 5000 _ hon
      have hca := open_ok d p n ep wr F M g1 hst hS (by omega) (by omega) hep
      have hdo : ∀ w1, Below wr.heap.size wr w1 → _ := fun w1 (h1 : Below wr.heap.size wr w1) => ropen_ok (h.below h1) hs hst hS (by omega) p n ep (by omega) (by omega) hep
      obtain ⟨R0, hR0⟩ : ∃ R0, R0 = frs 5000 M.S (G.new p n ep) := ⟨_, rfl⟩
      rw [← hR0] at hca hdo i1 i2 i3 i4 i5
      refine ⟨p, n, R0.1, R0.2, rfl, rfl, by omega, i1, i5, i4, hca.mono ?_, fun w1 h1 => (hdo w1 h1).mono ?_⟩
      · rintro e w' ⟨l, v, rfl, a1, a2, a3, a4, _, _, a5⟩
        exact ⟨l, v, rfl, a1, a2, a3, a4, a5⟩
      · rintro e w' ⟨m, v, rfl, a1, a2, a3, a4, a5⟩
        refine ⟨m, v, rfl, ?_, a2, a3, a4, a5⟩
        rw [RLogG, i2, i3]
        exact a1
end Go.Proofs.Ytecljiefljgfmaa
