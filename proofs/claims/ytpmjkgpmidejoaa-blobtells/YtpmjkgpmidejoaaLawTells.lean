/-
  BlobTells walked.
-/
import Derived.Test.YtpmjkgpmidejoaaTellsM
import Derived.Test.YtpmjkgpmidejoaaAwake
namespace Go.Proofs.Ytpmjkgpmidejoaa
open Go.RowKit

theorem bl_dread (w wr : World) (K : Nat → Prop) (b d s fr : Nat) (M : D) (L : List Bool) (h : BL w K b d s fr M L wr) (i : Nat) (hs : M.st ≠ 2) (hi : i < M.S.length) :
    Calls Try.prog 30 #[.pointer (some ⟨d, 0, none⟩), .int .i64 (i : Int)] wr fun e w' => ∃ g cap, e = .returned (.tuple #[.slice (some ⟨g, 0, none⟩) M.S[i].size cap, .int .i64 0]) ∧ Fresh w' g M.S[i] ∧ M.S[i].size ≤ cap ∧ BL w (More K wr w') b d s fr M L w' ∧ (wr.heap.size ≤ g ∧ g < w'.heap.size) ∧ Below wr.heap.size wr w' := by
  obtain ⟨F, h1, h2⟩ := h.st
  refine (read_cap d i wr F M h1.dev hs hi).mono ?_
  rintro e w' ⟨g, cap, rfl, q1, q2, q3, q4⟩
  exact ⟨g, cap, rfl, q1, q4, h.more q3, ⟨q2, q1.lt⟩, q3⟩
theorem bl_dwrite (w wr : World) (K : Nat → Prop) (b d s fr : Nat) (M : D) (L : List Bool) (h : BL w K b d s fr M L wr) (i : Int) (a : Option Addr) (l : List UInt8) (cap : Nat) (hb : Bytes wr a l) (hab : ∀ ad, a = some ad → ad.block < w.heap.size ∨ K ad.block) (hC : M.C.length ≤ 80000) :
    Calls Try.prog 23 #[.pointer (some ⟨d, 0, none⟩), .int .i64 i, .slice a l.length cap] wr fun e w' => e = .returned (.int .i64 (M.wr i ⟨l.toArray⟩).1) ∧ BL w K b d s fr (M.wr i ⟨l.toArray⟩).2 L w' ∧ Same K wr w' := by
  obtain ⟨F, h1, h2⟩ := h.st
  refine (write_any d i a l cap wr F M h1.dev hb (fun ad e hF => ?_) (by omega)).mono ?_
  · rcases hab ad e with h3 | h3
    · have := (h2 _ hF).1; omega
    · exact (h2 _ hF).2 h3
  · rintro e w' ⟨rfl, q1, q2⟩
    have hz := h.old.size
    refine ⟨rfl, ⟨⟨_, ⟨h1.blb.kept (q2.block b h1.blb.lt h1.nb), q1, h1.sp.kept (q2.block s h1.sp.lt h1.ns), fun h3 => h3.elim h1.nb (fun h4 => by have := h1.blb.lt; omega), fun h3 => h3.elim h1.ns (fun h4 => by have := h1.sp.lt; omega), h1.bs⟩, fun k hk => hk.elim (h2 k) (fun h3 => ⟨by omega, fun h4 => by have := h.hk k h4; omega⟩)⟩, h.hb, h.hs, fun k hk => by have := h.hk k hk; have := q2.size; omega, h.old.trans (q2.below (fun k hk => (h2 k hk).1) hz)⟩, fun k hk => q2.block k (h.hk k hk) (fun h3 => (h2 k h3).2 hk)⟩
theorem bytes_set {w : World} {g : Nat} {l : List UInt8} (h : Bytes w (some ⟨g, 0, none⟩) l) {j : Nat} (hj : j < l.length) (v : UInt8) : Bytes (w.setCell ⟨g, j, none⟩ (.int .u8 (v.toNat : Int))) (some ⟨g, 0, none⟩) (l.set j v) := by
  rcases h with h0 | ⟨b, off, e, hb, hc⟩
  · rw [h0] at hj; simp at hj
  · simp only [Option.some.injEq, Addr.mk.injEq, and_true] at e
    obtain ⟨rfl, rfl⟩ := e
    refine .inr ⟨g, 0, rfl, by simpa [World.setCell] using hb, fun i hi => ?_⟩
    rw [List.length_set] at hi
    rw [Nat.zero_add]
    have hci := hc i hi
    rw [Nat.zero_add] at hci
    by_cases e : j = i
    · subst e
      rw [World.cell?_setCell_same _ _ _ hci, List.getElem_set_self]
    · rw [World.cell?_setCell_other _ _ _ _ (by intro h2; simp only [Addr.mk.injEq, and_true, true_and] at h2; exact e h2), hci, List.getElem_set_ne e]
theorem xor_u8 (a b : UInt8) : bits .xor .u8 (a.toNat : Int) (b.toNat : Int) = ((a ^^^ b).toNat : Int) := by
  have hx : (a ^^^ b).toNat < 256 := (a ^^^ b).toNat_lt
  have ha := a.toNat_lt
  have hb := b.toNat_lt
  have h1 : (BitVec.ofInt 8 (a.toNat : Int)).toNat = a.toNat := by
    rw [BitVec.ofInt_natCast, BitVec.toNat_ofNat]; exact Nat.mod_eq_of_lt (by omega)
  have h2 : (BitVec.ofInt 8 (b.toNat : Int)).toNat = b.toNat := by
    rw [BitVec.ofInt_natCast, BitVec.toNat_ofNat]; exact Nat.mod_eq_of_lt (by omega)
  show IntKind.u8.wrap ((BitVec.ofInt 8 (a.toNat : Int) ^^^ BitVec.ofInt 8 (b.toNat : Int)).toNat : Int) = _
  rw [BitVec.toNat_xor, h1, h2, ← UInt8.toNat_xor, IntKind.wrap_u8]
  omega

theorem rem_turn (x n : Int) (hn : 0 < n) : ∃ r1 : Int, ∃ k : Nat, Int.tmod x n = r1 ∧ -n < r1 ∧ r1 < n ∧ Int.tmod (r1 + n) n = (k : Int) ∧ (k : Int) < n := by
  have h1 : -n < Int.tmod x n ∧ Int.tmod x n < n := by
    constructor
    · have : (Int.tmod x n).natAbs < n.natAbs := by rw [Int.natAbs_tmod]; exact Nat.mod_lt _ (by omega)
      omega
    · exact Int.tmod_lt_of_pos x hn
  refine ⟨Int.tmod x n, (Int.tmod (Int.tmod x n + n) n).toNat, rfl, h1.1, h1.2, ?_, ?_⟩
  · have := Int.tmod_nonneg n (show 0 ≤ Int.tmod x n + n by omega)
    omega
  · have := Int.tmod_lt_of_pos (Int.tmod x n + n) hn
    omega

/-- The device behind the changed byte. -/
def brkD (M : D) (i : Nat) (y : List UInt8) : D := { M with C := M.C ++ [(i, ⟨y.toArray⟩)], S := M.S.set i ⟨y.toArray⟩ }
theorem brk_fails {M : D} {l : List UInt8} {i0 t : Nat} {x : UInt8} (hc : Calm M) (hl : Lies M.S 2 l) (hlen : 2 + nsec l.length ≤ M.S.length) (hi : i0 < nsec l.length) (ht : t < 256) (hx : x ≠ 0) :
    rdGo (brkD M (2 + i0) (chg (sealL (pcL l i0)) t x)) 2 0 l.length (nsec l.length) 0 [] = (62, []) := by
  have hp : (pcL l i0).length ≤ 252 := by rw [pcL_length]; omega
  have hst : (brkD M (2 + i0) (chg (sealL (pcL l i0)) t x)).st ≠ 2 := by show M.st ≠ 2; rw [hc.st]; omega
  refine read_fails (i0 := i0) (by decide) ?_ ?_ _ 0 [] (by omega) (by omega) (by unfold nsec at hi; omega)
  · have hg : (brkD M (2 + i0) (chg (sealL (pcL l i0)) t x)).S.getD (2 + i0) default = ⟨(chg (sealL (pcL l i0)) t x).toArray⟩ := by
      show (M.S.set (2 + i0) _).getD (2 + i0) default = _
      rw [List.getD, List.getElem?_set_self (by omega)]
      rfl
    rw [unE, if_neg hst, hg, if_neg]
    simpa using chg_broken hp ht hx
  · intro i hi2
    have hg : (brkD M (2 + i0) (chg (sealL (pcL l i0)) t x)).S.getD (2 + i) default = M.S.getD (2 + i) default := by
      show (M.S.set (2 + i0) _).getD (2 + i) default = _
      rw [List.getD, List.getD, List.getElem?_set_ne (by omega)]
    have h1 := (hl.unit (M := M) (by rw [hc.st]; omega) (j := i) (by omega)).1
    rw [unE, if_neg (by rw [hc.st]; omega)] at h1
    rw [unE, if_neg hst, hg]
    exact h1
theorem brk_size {M : D} {i : Nat} {y : List UInt8} (hc : Calm M) (hy : y.length = 256) : ∀ x ∈ (brkD M i y).S, x.size = 256 := by
  intro x hx
  rcases List.mem_or_eq_of_mem_set hx with h | h
  · exact hc.sz x h
  · rw [h]; simpa [ByteArray.size] using hy

set_option maxHeartbeats 4000000 in
set_option maxRecDepth 100000 in
theorem tells_walk (w : World) (a : Option Addr) (l : List UInt8) (cap : Nat) (at0 : Int) (x : UInt8) (hb : Bytes w a l) (hcap : l.length ≤ cap) (hlm : l.length ≤ 140737488355328) :
    Calls Try.prog 6 #[.slice a l.length cap, .int .i64 at0, .int .u8 (x.toNat : Int)] w fun e w' => e = .returned (.bool true) ∧ Below w.heap.size w w' := by
  by_cases h0 : l.length = 0 ∨ 3000 < l.length ∨ x = 0
  · have haw := awake_any w
    obtain ⟨n, hn⟩ : ∃ n, n = l.length := ⟨_, rfl⟩
    rw [← hn] at h0 ⊢
    clear hb hcap hlm hn
    rcases (by omega : n = 0 ∨ 3000 < n ∨ (n ≠ 0 ∧ n ≤ 3000)) with h | h | ⟨h, h2⟩
    · subst h
      go_enter Try.func6, Try.ntmps6
      go_wp2_with (go_at_call 8; refine Calls.mono haw ?_; rintro e w1 ⟨rfl, q1⟩)
      go_ret
      exact ⟨rfl, q1⟩
    · have t1 : ¬ (n : Int) = 0 := by omega
      have t2 : (3000 : Int) < (n : Int) := by omega
      clear h0 h
      go_enter Try.func6, Try.ntmps6
      go_wp2_with (go_at_call 8; refine Calls.mono haw ?_; rintro e w1 ⟨rfl, q1⟩)
      go_ret
      exact ⟨rfl, q1⟩
    · have hx : x = 0 := by rcases h0 with h3 | h3 | h3 <;> first | omega | exact h3
      subst hx
      have t1 : ¬ (n : Int) = 0 := by omega
      have t2 : ¬ (3000 : Int) < (n : Int) := by omega
      clear h0 h h2
      go_enter Try.func6, Try.ntmps6
      go_wp2_with (go_at_call 8; refine Calls.mono haw ?_; rintro e w1 ⟨rfl, q1⟩)
      go_ret
      exact ⟨rfl, q1⟩
  · have h1 : 1 ≤ l.length ∧ l.length ≤ 3000 ∧ x ≠ 0 := by
      refine ⟨?_, ?_, fun e => h0 (.inr (.inr e))⟩
      · have : ¬ l.length = 0 := fun e => h0 (.inl e)
        omega
      · have : ¬ 3000 < l.length := fun e => h0 (.inr (.inl e))
        omega
    obtain ⟨hl1, hl2, hx⟩ := h1
    obtain ⟨K, hK⟩ : ∃ K, K = nsec l.length := ⟨_, rfl⟩
    have hKb : 1 ≤ K ∧ K ≤ 12 := by rw [hK]; unfold nsec; omega
    obtain ⟨nn, hnn⟩ : ∃ nn, nn = 256 * K := ⟨_, rfl⟩
    have hnI : (256 : Int) * (K : Int) = (nn : Int) := by omega
    obtain ⟨r1, kk, m1, m2, m3, m4, m5⟩ := rem_turn at0 (nn : Int) (by omega)
    obtain ⟨i0, hi0⟩ : ∃ i0, i0 = kk / 256 := ⟨_, rfl⟩
    obtain ⟨t, ht⟩ : ∃ t, t = kk % 256 := ⟨_, rfl⟩
    have hiK : i0 < K := by omega
    have ht6 : t < 256 := by omega
    have e1 : Int.tdiv (kk : Int) 256 = (i0 : Int) := by rw [hi0]; exact (Int.ofNat_tdiv kk 256).symm
    have e2 : Int.tmod (kk : Int) 256 = (t : Int) := by rw [ht]; exact (Int.ofNat_tmod kk 256).symm
    obtain ⟨M0, hM0⟩ : ∃ M0, M0 = D.new 20 blank := ⟨_, rfl⟩
    have hc0 : Calm M0 ∧ M0.S.length = 20 ∧ M0.L.length = 20 := ⟨by rw [hM0]; exact new_calm 20, by rw [hM0]; simp [D.new], by rw [hM0]; simp [D.new]⟩
    have hnew := dl_new w w K0 (fun k hk => hk.elim) (Below.refl _ _) 20 (by omega) (by omega)
    rw [← hM0] at hnew
    obtain ⟨M1, hM1⟩ : ∃ M1, M1 = putD M0 2 l := ⟨_, rfl⟩
    have hc1 : Calm M1 := by rw [hM1]; exact putD_calm hc0.1 2 l
    have hs1 : M1.S.length = 20 := by rw [hM1, putD_length, hc0.2.1]
    have hl1' : Lies M1.S 2 l := by rw [hM1]; exact putD_lies (by rw [hc0.2.1, ← hK]; omega)
    obtain ⟨y, hy⟩ : ∃ y, y = chg (sealL (pcL l i0)) t x := ⟨_, rfl⟩
    have hsl : (sealL (pcL l i0)).length = 256 := sealL_length (by rw [pcL_length]; omega)
    have hyl : y.length = 256 := by rw [hy, chg_length, hsl]
    obtain ⟨M2, hM2⟩ : ∃ M2, M2 = brkD M1 (2 + i0) y := ⟨_, rfl⟩
    have hw2 : M1.wr ((2 + i0 : Nat) : Int) ⟨y.toArray⟩ = (0, M2) := by rw [wr_live hc1.st (by omega) (by simpa [ByteArray.size] using hyl), hM2, brkD]
    have hfail : rdGo M2 2 0 l.length K 0 [] = (62, []) := by rw [hM2, hy, hK]; exact brk_fails hc1 hl1' (by rw [hs1, ← hK]; omega) (by rw [← hK]; exact hiK) ht6 hx
    have hsz2 : ∀ x ∈ M2.S, x.size = 256 := by rw [hM2]; exact brk_size hc1 hyl
    have hl2' : M2.S.length = 20 := by rw [hM2, brkD, List.length_set, hs1]
    have HO : Hid (∀ w1 d, DL w K0 d M0 w1 → Calls Try.prog 11 #[.pointer (some ⟨d, 0, none⟩), .int .i64 2, .int .i64 16, .slice none 0 0] w1 fun e w' => ∃ b s, e = .returned (.tuple #[.pointer (some ⟨b, 0, none⟩), .int .i64 0]) ∧ Hid (BL w K0 b d s 2 M0 (pre 0 16) w')) := (by
      intro w1 d hd
      refine (bl_open w w1 K0 d 2 16 M0 hd (by rw [hc0.2.2]; omega) none [] 0 (refs_nil _) (by simp) (pre 0 16) (by rw [← pre_new]; rfl)).mono ?_
      rintro e w' ⟨b, s, rfl, q1, _⟩
      exact ⟨b, s, rfl, q1⟩)
    obtain ⟨n, hn⟩ : ∃ n, n = l.length := ⟨_, rfl⟩
    have HWR : Hid (∀ w2 b d s, BL w K0 b d s 2 M0 (pre 0 16) w2 → Calls Try.prog 13 #[.pointer (some ⟨b, 0, none⟩), .slice a n cap] w2 fun e w' => e = .returned (.tuple #[rv 0 (n : Int), .int .i64 0]) ∧ Hid (BL w K0 b d s 2 M1 (pre K (16 - K)) w')) := (by
      intro w2 b d s hbl
      have hw := bl_write w w2 K0 b d s 2 M0 (pre 0 16) hbl a l cap (hb.below hbl.old (Nat.le_refl _)) (fun hne ad e => by
        rcases hb with h3 | ⟨b3, o3, e3, h4, _⟩
        · exact absurd h3 hne
        · rw [e3] at e
          simp only [Option.some.injEq] at e
          subst e
          exact .inl h4) hcap hlm (by rw [hc0.1.c]; simp) (by omega)
      have e := wr_pre (u := 0) (v := 16) (fr := 2) l hc0.1 (by rw [hc0.2.1]; omega)
      rw [if_neg (by omega), ← hK, if_pos (by omega)] at e
      rw [e, ← hn] at hw
      refine hw.mono ?_
      rintro e2 w' ⟨rfl, q1, _⟩
      refine ⟨rfl, ?_⟩
      rw [hM1]
      rw [Nat.zero_add] at q1
      exact q1)
    have HRD : Hid (∀ w3 b d s, BL w K0 b d s 2 M1 (pre K (16 - K)) w3 → Calls Try.prog 30 #[.pointer (some ⟨d, 0, none⟩), .int .i64 ((2 : Int) + (i0 : Int))] (w3.alloc (.cells #[.int .i64 0, .int .i64 (n : Int)] 40)) fun e w5 => ∃ g c, e = .returned (.tuple #[.slice (some ⟨g, 0, none⟩) 256 c, .int .i64 0]) ∧ 256 ≤ c ∧ w5.cell? ⟨g, t, none⟩ = some (.int .u8 (((sealL (pcL l i0)).getD t 0).toNat : Int)) ∧ w5.frozen? ⟨g, t, none⟩ = false ∧ w5.cell? ⟨w3.heap.size, 0, none⟩ = some (.int .i64 0) ∧
        w3.heap.size ≠ g ∧ Hid (Calls Try.prog 23 #[.pointer (some ⟨d, 0, none⟩), .int .i64 ((2 : Int) + (i0 : Int)), .slice (some ⟨g, 0, none⟩) 256 c] (w5.setCell ⟨g, t, none⟩ (.int .u8 (((sealL (pcL l i0)).getD t 0 ^^^ x).toNat : Int))) fun e w7 => e = .returned (.int .i64 0) ∧ w7.cell? ⟨w3.heap.size, 0, none⟩ = some (.int .i64 0) ∧ w7.cell? ⟨w3.heap.size, 1, none⟩ = some (.int .i64 (n : Int)) ∧ Hid (BL w K0 b d s 2 M2 (pre K (16 - K)) w7))) := (by
      intro w3 b d s hbl
      have hA : Below w3.heap.size w3 (w3.alloc (.cells #[.int .i64 0, .int .i64 (n : Int)] 40)) := (Below.refl _ w3).alloc (Nat.le_refl _) _
      have hbx : (w3.alloc (.cells #[.int .i64 0, .int .i64 (n : Int)] 40)).heap[w3.heap.size]? = some (.cells #[.int .i64 0, .int .i64 (n : Int)] 40 (0, 0)) := heap_alloc_new w3 _
      have hdr := bl_dread w _ _ b d s 2 M1 (pre K (16 - K)) (hbl.more hA) (2 + i0) (by rw [hc1.st]; omega) (by omega)
      have hxe : M1.S[2 + i0]'(by omega) = unitB l i0 := by
        have := hl1' i0 (by rw [← hK]; exact hiK)
        rw [List.getElem?_eq_getElem (by omega)] at this
        exact Option.some.inj this
      rw [hxe, unitB_size, show ((2 + i0 : Nat) : Int) = (2 : Int) + (i0 : Int) from by omega] at hdr
      refine hdr.mono ?_
      rintro e w5 ⟨g, c, rfl, q1, q2, q3, ⟨q4, q5⟩, q6⟩
      have hz4 : (w3.alloc (.cells #[.int .i64 0, .int .i64 (n : Int)] 40)).heap.size = w3.heap.size + 1 := by simp
      have hby : Bytes w5 (some ⟨g, 0, none⟩) (sealL (pcL l i0)) := by
        have := q1.bytes
        rwa [show (unitB l i0).data.toList = sealL (pcL l i0) from by simp [unitB]] at this
      have hgl : w3.heap.size < g := by omega
      have hbx5 : w5.heap[w3.heap.size]? = some (.cells #[.int .i64 0, .int .i64 (n : Int)] 40 (0, 0)) := (q6.block _ (by omega)).trans hbx
      have hct : w5.cell? ⟨g, t, none⟩ = some (.int .u8 (((sealL (pcL l i0)).getD t 0).toNat : Int)) := by
        rcases hby with h3 | ⟨b3, o3, e3, _, h5⟩
        · rw [h3] at hsl; simp at hsl
        · simp only [Option.some.injEq, Addr.mk.injEq, and_true] at e3
          obtain ⟨rfl, rfl⟩ := e3
          have := h5 t (by omega)
          rw [Nat.zero_add] at this
          rw [this]
          simp [List.getD, List.getElem?_eq_getElem (show t < (sealL (pcL l i0)).length by omega)]
      refine ⟨g, c, rfl, q2, hct, q1.free t (by rw [unitB_size]; exact ht6), cell_blk hbx5 0, by omega, ?_⟩
      have hby6 : Bytes (w5.setCell ⟨g, t, none⟩ (.int .u8 (((sealL (pcL l i0)).getD t 0 ^^^ x).toNat : Int))) (some ⟨g, 0, none⟩) y := by
        rw [hy, chg]
        exact bytes_set hby (by omega) _
      have hK5 : ∀ k, More (More K0 w3 (w3.alloc (.cells #[.int .i64 0, .int .i64 (n : Int)] 40))) (w3.alloc (.cells #[.int .i64 0, .int .i64 (n : Int)] 40)) w5 k → w.heap.size ≤ k := by
        have hz := hbl.old.size
        rintro k ((h3 | h3) | h3)
        · exact h3.elim
        · omega
        · omega
      have hgK : More (More K0 w3 (w3.alloc (.cells #[.int .i64 0, .int .i64 (n : Int)] 40))) (w3.alloc (.cells #[.int .i64 0, .int .i64 (n : Int)] 40)) w5 g := .inr ⟨q4, q5⟩
      have hrK : More (More K0 w3 (w3.alloc (.cells #[.int .i64 0, .int .i64 (n : Int)] 40))) (w3.alloc (.cells #[.int .i64 0, .int .i64 (n : Int)] 40)) w5 w3.heap.size := .inl (.inr ⟨Nat.le_refl _, by omega⟩)
      have hb6 := q3.other ((Turn.refl _ w5).setCell (p := ⟨g, t, none⟩) hgK (.int .u8 (((sealL (pcL l i0)).getD t 0 ^^^ x).toNat : Int))) hK5
      have hdw := bl_dwrite w _ _ b d s 2 M1 (pre K (16 - K)) hb6 ((2 + i0 : Nat) : Int) (some ⟨g, 0, none⟩) y c hby6 (fun ad e => by simp only [Option.some.injEq] at e; subst e; exact .inr hgK) (by rw [hc1.c]; simp)
      rw [hw2, hyl, show ((2 + i0 : Nat) : Int) = (2 : Int) + (i0 : Int) from by omega] at hdw
      refine hdw.mono ?_
      rintro e w7 ⟨rfl, q7, q8⟩
      have hbx7 : w7.heap[w3.heap.size]? = some (.cells #[.int .i64 0, .int .i64 (n : Int)] 40 (0, 0)) := (q8 _ hrK).trans ((Below.heap_setCell _ _ _ _ (by show w3.heap.size ≠ g; omega)).trans hbx5)
      exact ⟨rfl, cell_blk hbx7 0, cell_blk hbx7 1, q7.less fun k h3 => h3.elim⟩)
    have HRB : Hid (∀ w7 b d s, BL w K0 b d s 2 M2 (pre K (16 - K)) w7 → Calls Try.prog 15 #[.pointer (some ⟨b, 0, none⟩), rv 0 (n : Int), .int .i64 0, .int .i64 (n : Int)] w7 fun e w8 => ∃ a c, e = .returned (.tuple #[.slice a 0 c, .int .i64 62]) ∧ Below w.heap.size w w8) := (by
      intro w7 b d s hbl
      have hr := bl_read w w7 K0 b d s 2 M2 (pre K (16 - K)) hbl 0 n 0 n (pre_giveR (by rw [hn, ← hK]; omega) (by omega)) (by omega) hsz2 (by rw [pre_length, hl2']; omega)
      rw [Nat.add_zero, hn, ← hK, hfail, ← hn] at hr
      refine hr.mono ?_
      rintro e w8 ⟨a8, c8, rfl, _, _, _, q1, _⟩
      exact ⟨a8, c8, rfl, q1.old⟩)
    have hsec := fun w => sectors_any (n : Int) w (by omega)
    rw [secI_nat, hn, ← hK, ← hn] at hsec
    have hxor := xor_u8 ((sealL (pcL l i0)).getD t 0) x
    obtain ⟨v0, hv0⟩ : ∃ v0, v0 = (sealL (pcL l i0)).getD t 0 := ⟨_, rfl⟩
    rw [← hv0] at HRD hxor
    rw [← hn]
    have t1 : ¬ (n : Int) = 0 := by omega
    have t2 : ¬ (3000 : Int) < (n : Int) := by omega
    have t3 : ¬ (x.toNat : Int) = 0 := by
      intro h3
      apply hx
      apply UInt8.toNat.inj
      simpa using h3
    have t4 : ¬ (nn : Int) < 256 := by omega
    have t5 : (0 : Int) ≤ (t : Int) := by omega
    have HAW : Hid (∀ w8, Below w.heap.size w w8 → Calls Try.prog 8 #[] w8 fun e w9 => e = .returned (.bool true) ∧ Below w.heap.size w w9) := fun w8 q => (awake_any w8).mono fun e w9 h3 => ⟨h3.1, q.trans (h3.2.mono q.size)⟩
    have b1 : ((n : Int) == 0) = false := by rw [beq_eq_false_iff_ne]; exact t1
    have b3 : ((x.toNat : Int) == 0) = false := by rw [beq_eq_false_iff_ne]; exact t3
    clear t1 t3
    have t6 : ¬ (nn : Int) = 0 := by omega
    have t7 : IntKind.i64.wrap (r1 + (nn : Int)) = r1 + (nn : Int) := by rw [IntKind.wrap_i64]; omega
    have t8 : IntKind.i64.wrap ((2 : Int) + (i0 : Int)) = (2 : Int) + (i0 : Int) := by rw [IntKind.wrap_i64]; omega
    have t9 : (t : Int) < 256 := by omega
    have u1 : nn ≤ 4000 := by omega
    have u2 : kk ≤ 4000 := by omega
    have u3 : i0 ≤ 12 := by omega
    have u4 : wrap64 (r1 + (nn : Int)) = r1 + (nn : Int) := by unfold wrap64; omega
    have u5 : n ≤ 3000 := by omega
    clear m2 m3 m5 hiK t7
    clear h0 hb hcap hlm hl1 hl2 hx hK hKb hnn hi0 ht hM0 hc0 hM1 hc1 hs1 hl1' hy hsl hyl hM2 hw2 hfail hsz2 hl2' hn hv0
    go_enter Try.func6, Try.ntmps6
    go_wp2_with (first
      | (go_at_call 9; refine Calls.mono hnew ?_; rintro e w1 ⟨d, rfl, q1, q2⟩; have ho := HO.out w1 d q1; clear q1 q2)
      | (go_at_call 11; refine Calls.mono ho ?_; rintro e w2 ⟨b, s, rfl, HB⟩; have hwr := HWR.out w2 b d s HB.out)
      | (go_at_call 13; refine Calls.mono hwr ?_; rintro e w3 ⟨rfl, HB2⟩; have hrd := HRD.out w3 b d s HB2.out)
      | (go_at_call 28; refine Calls.mono (hsec _) ?_; rintro e w3' ⟨rfl, rfl⟩)
      | (go_at_call 30; refine Calls.mono hrd ?_; rintro e w5 ⟨g, c, rfl, k0, k1, k2, k3, k4, HDW⟩)
      | (go_at_call 23; refine Calls.mono HDW.out ?_; rintro e w7 ⟨rfl, k5, k6, HB7⟩; have hrb := HRB.out w7 b d s HB7.out)
      | (go_at_call 15; refine Calls.mono hrb ?_; rintro e w8 ⟨a8, c8, rfl, q8⟩; have haw := HAW.out w8 q8)
      | (go_at_call 8; refine Calls.mono haw ?_; rintro e w9 ⟨rfl, q9⟩))
    go_ret
    exact ⟨rfl, q9⟩
end Go.Proofs.Ytpmjkgpmidejoaa
