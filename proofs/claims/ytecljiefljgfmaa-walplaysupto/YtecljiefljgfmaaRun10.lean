/-
  The code's device and the document's do alike.
-/
import Derived.Test.YtecljiefljgfmaaRefWrite
import Derived.Test.YtecljiefljgfmaaRefFlush
import Derived.Test.YtecljiefljgfmaaRun06
import Derived.Test.YtecljiefljgfmaaRun01
import Derived.Test.YtecljiefljgfmaaRun07
import Derived.Test.YtecljiefljgfmaaRun02
import Derived.Test.YtecljiefljgfmaaRun03
import Derived.Deep.RegionLaw
import Derived.Laws.AppendOwnNone
import Derived.BigRegion
import Derived.Test.YtecljiefljgfmaaRun05
namespace Go.Proofs.Ytecljiefljgfmaa
open Go.RowKit

structure Sim (M : D) (N : R) : Prop where
  s : M.S = app M.L M.C
  l : N.L = M.L
  c : N.W = M.C
  d : N.dead = decide (M.st = 2)
  f : M.st ≠ 2 → N.f = if M.st = 0 then -1 else M.k

theorem sim_burn {M : D} {N : R} (h : Sim M N) (hok : M.Ok) (hs : M.st ≠ 2) : M.burn.1 = N.burn.1 ∧ Sim M.burn.2 N.burn.2 := by
  have hst := hok.st
  have hk := hok.k0
  have hf := h.f hs
  rcases (by omega : M.st = 0 ∨ M.st = 1) with h0 | h1
  · rw [if_pos h0] at hf
    have e1 : M.burn = (0, M) := by rw [D.burn, if_pos h0]
    have e2 : N.burn = (0, N) := by rw [R.burn, if_neg (by omega), if_neg (by omega)]
    rw [e1, e2]
    exact ⟨rfl, h⟩
  · rw [if_neg (by omega)] at hf
    by_cases hp : 0 < M.k
    · have e1 : M.burn = (0, { M with k := M.k - 1 }) := by rw [D.burn, if_neg (by omega), if_pos ⟨h1, hp⟩]
      have e2 : N.burn = (0, { N with f := N.f - 1 }) := by rw [R.burn, if_neg (by omega), if_pos (by omega)]
      rw [e1, e2]
      exact ⟨rfl, h.s, h.l, h.c, h.d, fun _ => by show N.f - 1 = if M.st = 0 then -1 else M.k - 1; rw [if_neg (by omega)]; omega⟩
    · have e1 : M.burn = (50, { M with st := 2 }) := by rw [D.burn, if_neg (by omega), if_neg (fun h => hp h.2)]
      have e2 : N.burn = (50, { N with dead := true }) := by rw [R.burn, if_pos (by omega)]
      rw [e1, e2]
      exact ⟨rfl, h.s, h.l, h.c, rfl, fun hn => absurd rfl hn⟩

theorem sim_dead {M : D} {N : R} (h : Sim M N) : (N.dead = true ↔ M.st = 2) := by rw [h.d]; simp

theorem sim_wr {M : D} {N : R} (h : Sim M N) (hok : M.Ok) (i : Int) (b : ByteArray) : (M.wr i b).1 = (N.wr i b).1 ∧ Sim (M.wr i b).2 (N.wr i b).2 := by
  by_cases hs : M.st = 2
  · have e1 : M.wr i b = M.burn := wr_burnt (.inl hs) (by rw [burn_st2 hs]; decide)
    have e2 : N.wr i b = (50, N) := by rw [R.wr, if_pos ((sim_dead h).2 hs)]
    have e3 : M.burn = (50, M) := by
      rw [D.burn, if_neg (by omega), if_neg (by omega), ← hs]
    rw [e1, e2, e3]
    exact ⟨rfl, h⟩
  · have hd : ¬ N.dead = true := fun e => hs ((sim_dead h).1 e)
    have hlen : N.L.length = M.S.length := by rw [h.l, h.s, app_length]
    by_cases hi : 0 ≤ i ∧ i < (M.S.length : Int) ∧ b.size = 256
    · obtain ⟨b1, b2⟩ := sim_burn h hok hs
      obtain ⟨e1, e2, e3⟩ := M.burn_L
      obtain ⟨f1, f2⟩ := N.burn_L
      have g2 : N.wr i b = if N.burn.1 ≠ 0 then N.burn else (0, { N.burn.2 with W := N.W ++ [(i.toNat, b)] }) := by
        rw [R.wr, if_neg hd, if_neg (fun hn => hn (by rw [hlen]; exact hi))]
      rw [g2]
      by_cases hb : M.burn.1 = 0
      · rw [wr_done (.inr hi) hb, if_neg (by omega)]
        refine ⟨rfl, ?_, b2.l, ?_, b2.d, b2.f⟩
        · show M.S.set i.toNat b = app M.burn.2.L (M.C ++ [(i.toNat, b)])
          rw [app_snoc, e1, h.s]
        · show N.W ++ _ = M.C ++ _
          rw [h.c]
      · rw [wr_burnt (.inr hi) hb, if_pos (by omega)]
        exact ⟨b1, b2⟩
    · rw [wr_arg hs hi, R.wr, if_neg hd, if_pos (fun hn => hi (by rw [hlen] at hn; exact hn))]
      exact ⟨rfl, h⟩

theorem sim_flush {M : D} {N : R} (h : Sim M N) (hok : M.Ok) : M.flush.1 = N.flush.1 ∧ Sim M.flush.2 N.flush.2 := by
  by_cases hs : M.st = 2
  · have e3 : M.burn = (50, M) := by rw [D.burn, if_neg (by omega), if_neg (by omega), ← hs]
    have e1 : M.flush = (50, M) := by rw [D.flush, e3, if_pos (by show (50 : Int) ≠ 0; decide)]
    have e2 : N.flush = (50, N) := by rw [R.flush, if_pos ((sim_dead h).2 hs)]
    rw [e1, e2]
    exact ⟨rfl, h⟩
  · have hd : ¬ N.dead = true := fun e => hs ((sim_dead h).1 e)
    obtain ⟨b1, b2⟩ := sim_burn h hok hs
    obtain ⟨e1, e2, e3⟩ := M.burn_L
    rw [D.flush, R.flush, if_neg hd]
    by_cases hb : M.burn.1 = 0
    · rw [if_neg (by omega), if_neg (by omega)]
      refine ⟨rfl, ?_, ?_, rfl, b2.d, b2.f⟩
      · show M.burn.2.S = app (app M.L M.C) []
        rw [e2, h.s]
        rfl
      · show app N.L N.W = app M.L M.C
        rw [h.l, h.c]
    · rw [if_pos (by omega), if_pos (by omega)]
      exact ⟨b1, b2⟩

theorem sim_crash {M : D} {N : R} (h : Sim M N) (keep : List Bool) : Sim (M.crash keep) (N.crash keep) := by
  refine ⟨rfl, ?_, rfl, rfl, fun _ => rfl⟩
  show app N.L (kept keep N.W) = app M.L (kept keep M.C)
  rw [h.l, h.c]

theorem sim_fuse {M : D} {N : R} (h : Sim M N) (k : Int) : Sim (M.fuse k) (N.fuse k) := by
  by_cases hs : M.st = 2
  · have e : M.fuse k = M := by rw [D.fuse, if_pos hs]
    rw [e]
    exact ⟨h.s, h.l, h.c, h.d, fun hn => absurd hs hn⟩
  · have hd : N.dead = false := by rw [h.d]; exact decide_eq_false hs
    by_cases hk : k < 0
    · have e : M.fuse k = { M with st := 0, k := 0 } := by rw [D.fuse, if_neg hs, if_pos hk]
      rw [e]
      exact ⟨h.s, h.l, h.c, hd, fun _ => by show max k (-1) = if 0 = 0 then -1 else _; rw [if_pos rfl]; omega⟩
    · have e : M.fuse k = { M with st := 1, k := k } := by rw [D.fuse, if_neg hs, if_neg hk]
      rw [e]
      exact ⟨h.s, h.l, h.c, hd, fun _ => by show max k (-1) = if 1 = 0 then -1 else k; rw [if_neg (by omega)]; omega⟩

theorem sim_new (n : Nat) (b : ByteArray) : Sim (D.new n b) (R.new n b) := ⟨rfl, rfl, rfl, rfl, fun _ => rfl⟩

/-- What Read tells, in the code's words. -/
theorem sim_rd_dead {M : D} {N : R} (h : Sim M N) (hs : M.st = 2) (i : Int) : N.rd i = (⟨#[]⟩, 50) := by rw [R.rd, if_pos ((sim_dead h).2 hs)]
theorem sim_rd_arg {M : D} {N : R} (h : Sim M N) (hs : M.st ≠ 2) {i : Int} (hi : ¬ (0 ≤ i ∧ i < (M.L.length : Int))) : N.rd i = (⟨#[]⟩, 1) := by
  rw [R.rd, if_neg (fun e => hs ((sim_dead h).1 e)), if_neg (by rw [h.l]; exact hi)]
theorem sim_rd_ok {M : D} {N : R} (h : Sim M N) (hs : M.st ≠ 2) {i : Nat} (hi : i < M.S.length) : N.rd (i : Int) = (M.S[i], 0) := by
  have hl : M.S.length = M.L.length := by rw [h.s, app_length]
  rw [R.rd, if_neg (fun e => hs ((sim_dead h).1 e)), if_pos (by rw [h.l]; omega), h.l, h.c, ← h.s, List.getD_eq_getElem?_getD, show ((i : Int)).toNat = i from by omega, List.getElem?_eq_getElem hi]
  rfl
end Go.Proofs.Ytecljiefljgfmaa
/-
  New by its contracts.
-/
namespace Go.Proofs.Ytecljiefljgfmaa
open Go.RowKit

/-- A sector of noughts. -/
def blank : ByteArray := ⟨(List.replicate 256 0).toArray⟩
theorem rep_one (x : UInt8) : ∀ n, Lib.repeatL [x] n = List.replicate n x
  | 0 => rfl
  | n + 1 => by rw [Lib.repeatL, rep_one x n, List.replicate_succ]; rfl
theorem blank_rep : (⟨(Lib.repeatL ([0] : List UInt8) 256).toArray⟩ : ByteArray) = blank := by
  rw [rep_one, blank]

theorem new_bad (n : Int) (w : World) (h : n < 1 ∨ 4096 < n) :
    Calls Try.prog 10 #[.int .i64 n] w fun e w' => e = .returned (.tuple #[.pointer none, .int .i64 1]) ∧ w = w' := by
  rcases (by omega : n < 1 ∨ (¬ n < 1 ∧ 4096 < n)) with h | ⟨h0, h⟩
  · go_enter Try.func10, Try.ntmps10
    go_wp2
    go_ret2
    exact ⟨rfl, rfl⟩
  · go_enter Try.func10, Try.ntmps10
    go_wp2
    go_ret2
    exact ⟨rfl, rfl⟩

theorem new_mem {w3 w4 : World} {d : Nat} {lv sv : Value} {n : Nat} {b : ByteArray} (hl : w3.ownsRow 0 9 1 lv n (scs (List.replicate n b))) (hs : w3.ownsRow 0 9 1 sv n (scs (List.replicate n b))) (hls : ∀ g, lv.ownBlock = some g → sv.ownBlock ≠ some g)
    (h4 : w4 = w3.alloc (.cells #[lv, sv, .slice none 0 0, .int .i64 0, .int .i64 0] 84)) (hd : d = w3.heap.size) : DevV w4 d lv sv (.slice none 0 0) (D.new n b) := by
  subst h4 hd
  have k1 : ∀ g, lv.ownBlock = some g → g < w3.heap.size := fun g hg => (World.ownsRow.lt hl g hg).2
  have k2 : ∀ g, sv.ownBlock = some g → g < w3.heap.size := fun g hg => (World.ownsRow.lt hs g hg).2
  have e : (D.new n b).L.length = n := by simp [D.new]
  have e2 : (D.new n b).S.length = n := by simp [D.new]
  refine ⟨heap_alloc_new w3 _, by rw [e]; exact hl.alloc _, by rw [e2]; exact hs.alloc _, World.ownsRow_nil _ 0 104 2, ?_, ?_, ?_⟩
  · intro g hg
    exact ⟨by have := k1 g hg; omega, hls g hg, by simp [Value.ownBlock]⟩
  · intro g hg
    exact ⟨by have := k2 g hg; omega, by simp [Value.ownBlock]⟩
  · intro g hg
    simp [Value.ownBlock] at hg

set_option maxHeartbeats 2000000 in
theorem new_ok (n : Nat) (w : World) (h1 : 1 ≤ n) (hn : n ≤ 4096) :
    Calls Try.prog 10 #[.int .i64 (n : Int)] w fun e w' => ∃ d, e = .returned (.tuple #[.pointer (some ⟨d, 0, none⟩), .int .i64 0]) ∧ Dev w' (fun k => w.heap.size ≤ k ∧ k < w'.heap.size) d (D.new n blank) ∧ Below w.heap.size w w' := by
  have hrep := strings_Repeat_main ⟨#[0]⟩ 256 w (by omega) (by omega) (by decide) (by decide)
  rw [blank_rep] at hrep
  have hni : (n : Int) ≤ 4096 := by omega
  have hni1 : (1 : Int) ≤ (n : Int) := by omega
  go_enter Try.func10, Try.ntmps10
  go_wp2_with fail
  refine Calls.mono hrep ?_
  rintro e w1 ⟨rfl, hb1⟩
  clear hrep
  go_wp2_with fail
  refine Calls.mono (repeat_any w1.heap.size n blank (w1.alloc (.cells #[.string blank] 9)) (cell_blk (heap_alloc_new w1 _) 0) h1 hn) ?_
  rintro e w2 ⟨v2, rfl, ho2, hb2⟩
  obtain ⟨g2, c2, rfl, _, hg2, hlt2⟩ := owns_head ho2 h1
  have HB2 := (show Hid (Below (w1.alloc (.cells #[.string blank] 9)).heap.size (w1.alloc (.cells #[.string blank] 9)) w2) from hb2)
  have HO2 := (show Hid (w2.ownsRow (w1.alloc (.cells #[.string blank] 9)).heap.size 9 1 (.slice (some ⟨g2, 0, none⟩) n c2) n (scs (List.replicate n blank))) from ho2)
  have HB1 := (show Hid (Below w.heap.size w w1) from hb1)
  have HCL := (show Hid _ from cloneS_any g2 n c2 (List.replicate n blank) w2 (owns_base (base' := 0) ho2 fun _ _ => Nat.zero_le _) hn)
  clear hb2 ho2 hb1
  go_wp2_with fail
  refine Calls.mono HCL.out ?_
  rintro e w3 ⟨v3, rfl, ho3, hb3⟩
  obtain ⟨g3, c3, rfl, _, hg3, hlt3⟩ := owns_head ho3 h1
  have HB3 := (show Hid (Below w2.heap.size w2 w3) from hb3)
  have HO3 := (show Hid (w3.ownsRow w2.heap.size 9 1 (.slice (some ⟨g3, 0, none⟩) n c3) n (scs (List.replicate n blank))) from ho3)
  clear hb3 ho3 HCL
  go_wp2
  go_ret2
  have z1 := HB1.out.size
  have z2 := HB2.out.size
  have z3 := HB3.out.size
  simp at z2 hg2
  have hl3 : w3.ownsRow 0 9 1 (.slice (some ⟨g2, 0, none⟩) n c2) n (scs (List.replicate n blank)) := owns_other (owns_base (base' := 0) HO2.out fun _ _ => Nat.zero_le _) fun j hj => HB3.out.block j (by have hj' : g2 = j := (by simpa [Value.ownBlock] using hj); rw [← hj']; exact hlt2)
  refine ⟨_, rfl, ⟨D.Ok.new h1 hn blank, ?_, _, _, _, new_mem hl3 (owns_base (base' := 0) HO3.out fun _ _ => Nat.zero_le _) (fun g hg e => ?_) rfl rfl, ?_⟩, ?_⟩
  · exact fun k hk => hk.2
  · obtain rfl : g2 = g := by simpa [Value.ownBlock] using hg
    obtain rfl : g3 = g2 := by simpa [Value.ownBlock] using e
    omega
  · intro k hk
    simp only [Foot, Value.ownBlock, Option.some.injEq] at hk
    simp
    rcases hk with hk | hk | hk | hk
    · omega
    · omega
    · omega
    · simp at hk
  · exact (((HB1.out.alloc z1 _).trans (HB2.out.mono (by simp; omega))).trans (HB3.out.mono (by omega))).alloc (by omega) _
end Go.Proofs.Ytecljiefljgfmaa
/-
  The document's New and Copy by their contracts.
-/
namespace Go.Proofs.Ytecljiefljgfmaa
open Go.RowKit

set_option maxHeartbeats 1000000 in
theorem refblank_any (w : World) : Calls Try.prog 40 #[] w fun e w' => e = .returned (.string blank) ∧ Below w.heap.size w w' := by
  obtain ⟨i0, hi, hz0, hz1, hz2⟩ := info_parts info5
  have hm : i0.bytes * 256 ≤ 281474976710656 := by rw [hz2]; omega
  have hcv : ∀ w0 : World, w0.ownsRow w.heap.size 5 1 (.slice (some ⟨w.heap.size, 0, none⟩) 256 256) 256 (bcs (List.replicate 256 0)) → (convert 50 9 (.slice (some ⟨w.heap.size, 0, none⟩) 256 256)).run Try.prog w0 = .ok (.string blank) w0 := by
    intro w0 ho
    have := convert_bytes w0 (some ⟨w.heap.size, 0, none⟩) 256 (List.replicate 256 0) (own_bytes ho)
    rw [List.length_replicate] at this
    exact this
  have HCV := (show Hid _ from hcv)
  clear hcv
  go_enter Try.func40, Try.ntmps40
  go_wp2_with (at_make; refine wpList_make_full _ rfl _ _ 50 rfl w.heap.size 5 i0 (.int .u8 0) 1 Try.underlying50 hi hz0 hz1 _ _ _ _ 256 rfl rfl (by omega) (by omega) hm (by unfold maxLen; omega) (Nat.le_refl _) ?_; intro w0 hown0 hgrow0; rw [made_bytes] at hown0; have hc := HCV.out w0 hown0)
  go_ret
  exact ⟨rfl, (Below.refl _ _).grown hgrow0 (Nat.le_refl _) (by simp)⟩

theorem refnew_bad (n : Int) (w : World) (h : n < 1 ∨ 4096 < n) :
    Calls Try.prog 11 #[.int .i64 n] w fun e w' => e = .returned (.tuple #[.pointer none, .int .i64 1]) ∧ w = w' := by
  rcases h with h | h
  · go_enter Try.func11, Try.ntmps11
    go_wp2
    go_ret2
    exact ⟨rfl, rfl⟩
  · have h1 : ¬ n < 1 := by omega
    go_enter Try.func11, Try.ntmps11
    go_wp2
    go_ret2
    exact ⟨rfl, rfl⟩

theorem one_new (w : World) (x : Value) (t : TypeId) : ∀ j u, [x][j]? = some u → (w.alloc (.cells #[x] t)).cell? ((⟨w.heap.size, 0, none⟩ : Addr).add j) = some u := by
  intro j u hj
  rw [Addr.add_lit, Nat.zero_add]
  have := cell_blk (heap_alloc_new w (.cells #[x] t)) j
  rw [this]
  simpa using hj

/-- The document's device while New fills it. -/
def Fill (w wr : World) (k : Nat) (b : ByteArray) : Prop :=
  ∃ la lc, wr.heap[w.heap.size]? = some (.cells #[.slice la k lc, .slice none 0 0, .int .i64 (-1), .bool false] 49 (0, 0)) ∧ wr.ownsRow 0 9 1 (.slice la k lc) k (scs (List.replicate k b)) ∧
    (∀ g, Value.ownBlock (.slice la k lc) = some g → w.heap.size < g) ∧ Below w.heap.size w wr

theorem fill_step {w wr w2 : World} {k : Nat} {b : ByteArray} {la : Option Addr} {lc : Nat} {v' : Value}
    (hb : wr.heap[w.heap.size]? = some (.cells #[.slice la k lc, .slice none 0 0, .int .i64 (-1), .bool false] 49 (0, 0))) (hlo : ∀ g, Value.ownBlock (.slice la k lc) = some g → w.heap.size < g) (hB : Below w.heap.size w wr)
    (ho : w2.ownsRow 0 9 1 v' (k + 1) (scs (List.replicate k b) ++ [.string b])) (hg : (wr.alloc (.cells #[.string b] 9)).grownBy w2 (Value.ownBlock (.slice la k lc)))
    (hn : v'.ownBlock = Value.ownBlock (.slice la k lc) ∨ ∀ j, v'.ownBlock = some j → (wr.alloc (.cells #[.string b] 9)).heap.size ≤ j) :
    (∃ la' lc', v' = .slice la' (k + 1) lc') ∧ w2.cell? ⟨w.heap.size, 0, none⟩ = some (.slice la k lc) ∧ w2.frozen? ⟨w.heap.size, 0, none⟩ = false ∧ Fill w (w2.setCell ⟨w.heap.size, 0, none⟩ v') (k + 1) b := by
  have hd : w.heap.size < wr.heap.size := (Array.getElem?_eq_some_iff.1 hb).1
  have hsz := hB.size
  have hs2 := hg.size
  have hs1 : (wr.alloc (.cells #[.string b] 9)).heap.size = wr.heap.size + 1 := by simp
  have hne : some w.heap.size ≠ Value.ownBlock (.slice la k lc) := fun e => by have := hlo _ e.symm; omega
  have hb2 : w2.heap[w.heap.size]? = some (.cells #[.slice la k lc, .slice none 0 0, .int .i64 (-1), .bool false] 49 (0, 0)) := by
    rw [hg.block _ (by omega) hne, Below.heap_alloc _ _ _ hd]
    exact hb
  have hlo' : ∀ g, v'.ownBlock = some g → w.heap.size < g := by
    intro g e
    rcases hn with hn | hn
    · rw [hn] at e; exact hlo g e
    · have := hn g e; omega
  obtain ⟨la', lc', rfl⟩ := owns_shape ho
  refine ⟨⟨la', lc', rfl⟩, cell_blk hb2 0, frozen_blk hb2 0, la', lc', (set_blk hb2 0 _).trans rfl, ?_, hlo', ?_⟩
  · have e : scs (List.replicate (k + 1) b) = scs (List.replicate k b) ++ [.string b] := by
      rw [List.replicate_succ']
      simp [scs]
    rw [e]
    exact owns_setCell ho (fun e => by have := hlo' _ e; simp at this) _
  · exact ((hB.alloc hsz _).grown hg (by omega) (fun j hj => by have := hlo j hj; omega)).setCell (Nat.le_refl _) _

set_option maxHeartbeats 2000000 in
theorem refnew_ok (n : Nat) (w : World) (h1 : 1 ≤ n) (hn : n ≤ 4096) :
    Calls Try.prog 11 #[.int .i64 (n : Int)] w fun e w' => ∃ d, e = .returned (.tuple #[.pointer (some ⟨d, 0, none⟩), .int .i64 0]) ∧ RDev w' (fun k => w.heap.size ≤ k ∧ k < w'.heap.size) d (R.new n blank) ∧ Below w.heap.size w w' := by
  obtain ⟨i0, hi, hz0, hz1, hz2⟩ := info_parts info9
  have hni : ¬ (4096 : Int) < (n : Int) := by omega
  have hni1 : ¬ (n : Int) < 1 := by omega
  have hbl := refblank_any (w.alloc (.cells #[.slice none 0 0, .slice none 0 0, .int .i64 (-1), .bool false] 49))
  obtain ⟨b, hbe⟩ : ∃ b, b = blank := ⟨_, rfl⟩
  rw [← hbe] at hbl ⊢
  clear hbe
  go_enter Try.func11, Try.ntmps11
  go_wp2_with fail
  refine Calls.mono hbl ?_
  rintro e w1 ⟨rfl, hb1⟩
  clear hbl
  have HF1 : Hid (Fill w w1 0 b) := by
    have hal : (w.alloc (.cells #[.slice none 0 0, .slice none 0 0, .int .i64 (-1), .bool false] 49)).heap.size = w.heap.size + 1 := by simp
    refine ⟨none, 0, ?_, ?_, ?_, ?_⟩
    · rw [hb1.block _ (by omega)]
      exact heap_alloc_new w _
    · exact World.ownsRow_nil w1 0 9 1
    · intro g hg; simp [Value.ownBlock] at hg
    · exact (((Below.refl _ w).alloc (Nat.le_refl _) _).trans (hb1.mono (by omega)))
  clear hb1
  go_wp2
  go_loopw [6] (fun i wr => ∃ k : Nat, k ≤ n ∧ i = .int .i64 k ∧ Fill w wr k b) (fun i _ => n - (intOf i).toNat)
  case atStart => exact ⟨0, Nat.zero_le _, rfl, HF1.out⟩
  case round =>
    obtain ⟨k, hk, rfl, la, lc, hb, hr, hlo, hB⟩ := hrel
    clear HF1
    by_cases hlt : k < n
    · have c0 := cell_blk hb 0
      simp only [List.getElem?_toArray] at c0
      have hki : (k : Int) < (n : Int) := by omega
      have hown := hr.alloc (.cells #[.string b] 9)
      have hfa : ∀ v' w2, w2.ownsRow 0 9 1 v' (k + 1) (scs (List.replicate k b) ++ [.string b]) → (wr.alloc (.cells #[.string b] 9)).grownBy w2 (Value.ownBlock (.slice la k lc)) → (v'.ownBlock = Value.ownBlock (.slice la k lc) ∨ ∀ j, v'.ownBlock = some j → (wr.alloc (.cells #[.string b] 9)).heap.size ≤ j) →
        (∃ la' lc', v' = .slice la' (k + 1) lc') ∧ w2.cell? ⟨w.heap.size, 0, none⟩ = some (.slice la k lc) ∧ w2.frozen? ⟨w.heap.size, 0, none⟩ = false ∧ Fill w (w2.setCell ⟨w.heap.size, 0, none⟩ v') (k + 1) b := fun v' w2 ho hg hn => fill_step hb hlo hB ho hg hn
      have HFA := (show Hid _ from hfa)
      have hsl : (scs (List.replicate k b)).length = k := by rw [scs_length, List.length_replicate]
      clear hb hr hlo hB hfa
      go_wp2_with (at_builtin; refine wpList_append_own2 rfl _ _ 40 rfl 0 9 i0 (.string ⟨#[]⟩) 1 16 Try.underlying40 hi hz0 hz1 hz2 rfl (by decide) _ k (scs (List.replicate k b)) rfl hown ⟨wr.heap.size, 0, none⟩ 1 1 [.string b] rfl rfl (one_new _ _ _) (by intro u hu; simp at hu; rw [hu]; rfl) (by unfold maxLen; omega) (by omega) (Nat.zero_le _) ?_; intro v' w2 ho2 hg2 hn2; obtain ⟨⟨la', lc', rfl⟩, x1, x2, x3⟩ := HFA.out v' w2 ho2 hg2 hn2; have HX := (show Hid (Fill w (w2.setCell ⟨w.heap.size, 0, none⟩ (.slice la' (k + 1) lc')) (k + 1) b) from x3); clear ho2 hg2 hn2 x3)
      go_roundw
      case rel => exact ⟨k + 1, by omega, by go_num, HX.out⟩
      case measure => simp [intOf]; omega
    · obtain rfl : k = n := by omega
      have HX : Hid (Fill w wr k b) := ⟨la, lc, hb, hr, hlo, hB⟩
      clear hb hr hlo hB
      go_wp2
      go_ret2
      obtain ⟨la, lc, hb, hr, hlo, hB⟩ := HX.out
      have hd : w.heap.size < wr.heap.size := (Array.getElem?_eq_some_iff.1 hb).1
      refine ⟨_, rfl, ⟨R.Ok.new h1 hn b, fun j hj => hj.2, .slice la k lc, .slice none 0 0, ⟨hb, ?_, World.ownsRow_nil _ 0 106 2, ?_, ?_⟩, ?_⟩, hB⟩
      · show wr.ownsRow 0 9 1 _ (List.replicate k b).length (scs (List.replicate k b))
        rw [List.length_replicate]
        exact hr
      · intro g hg
        exact ⟨by have := hlo g hg; omega, by simp [Value.ownBlock]⟩
      · intro g hg; simp [Value.ownBlock] at hg
      · intro j hj
        rcases hj with hj | hj | hj
        · omega
        · have := hlo j hj
          have := (owns_lt hr j hj).2
          omega
        · simp [Value.ownBlock] at hj
end Go.Proofs.Ytecljiefljgfmaa
/-
  The code's device and the document's side by side, beside blocks that neither touches.
-/
namespace Go.Proofs.Ytecljiefljgfmaa
open Go.RowKit

def Pair (w wr : World) (d r : Nat) (K : Nat → Prop) (M : D) (N : R) : Prop :=
  ∃ F G, Dev wr F d M ∧ RDev wr G r N ∧ (∀ j, F j → w.heap.size ≤ j ∧ ¬ G j ∧ ¬ K j) ∧ (∀ j, G j → w.heap.size ≤ j ∧ ¬ K j) ∧ (∀ j, K j → j < wr.heap.size) ∧ Below w.heap.size w wr

theorem Pair.old {w wr : World} {d r : Nat} {K : Nat → Prop} {M : D} {N : R} (h : Pair w wr d r K M N) : Below w.heap.size w wr := by
  obtain ⟨F, G, _, _, _, _, _, h6⟩ := h
  exact h6
theorem Pair.ok {w wr : World} {d r : Nat} {K : Nat → Prop} {M : D} {N : R} (h : Pair w wr d r K M N) : M.Ok := by
  obtain ⟨F, G, h1, _⟩ := h
  exact h1.1
/-- The world goes on; new blocks, or some of K turned. -/
theorem Pair.go {w wr w2 : World} {d r : Nat} {K K' : Nat → Prop} {M : D} {N : R} (h : Pair w wr d r K M N) (ht : Turn K wr w2) (hK : ∀ j, K j → w.heap.size ≤ j) (hK' : ∀ j, K' j → K j ∨ (wr.heap.size ≤ j ∧ j < w2.heap.size)) : Pair w w2 d r K' M N := by
  obtain ⟨F, G, h1, h2, h3, h4, h5, h6⟩ := h
  have hs := ht.size
  refine ⟨F, G, h1.other ht (fun k hk => (h3 k hk).2.2), h2.other ht (fun k hk => (h4 k hk).2), ?_, ?_, ?_, h6.trans (ht.below hK h6.size)⟩
  · intro j hj
    refine ⟨(h3 j hj).1, (h3 j hj).2.1, fun hk => ?_⟩
    rcases hK' j hk with hk | hk
    · exact (h3 j hj).2.2 hk
    · have := h1.2.1 j hj; omega
  · intro j hj
    refine ⟨(h4 j hj).1, fun hk => ?_⟩
    rcases hK' j hk with hk | hk
    · exact (h4 j hj).2 hk
    · have := h2.2.1 j hj; omega
  · intro j hj
    rcases hK' j hj with hk | hk
    · have := h5 j hk; omega
    · exact hk.2
theorem Pair.below {w wr w2 : World} {d r : Nat} {K : Nat → Prop} {M : D} {N : R} (h : Pair w wr d r K M N) (hb : Below wr.heap.size wr w2) : Pair w w2 d r K M N := by
  obtain ⟨F, G, h1, h2, h3, h4, h5, h6⟩ := h
  exact ⟨F, G, h1.below hb, h2.below hb, h3, h4, fun j hj => Nat.lt_of_lt_of_le (h5 j hj) hb.size, h6.trans (hb.mono h6.size)⟩
theorem Pair.wider {w wr w2 : World} {d r : Nat} {K K' : Nat → Prop} {M : D} {N : R} (h : Pair w wr d r K M N) (hb : Below wr.heap.size wr w2) (hK' : ∀ j, K' j → K j ∨ (wr.heap.size ≤ j ∧ j < w2.heap.size)) : Pair w w2 d r K' M N := by
  obtain ⟨F, G, h1, h2, h3, h4, h5, h6⟩ := h
  have hs := hb.size
  refine ⟨F, G, h1.below hb, h2.below hb, ?_, ?_, ?_, h6.trans (hb.mono h6.size)⟩
  · intro j hj
    refine ⟨(h3 j hj).1, (h3 j hj).2.1, fun hk => ?_⟩
    rcases hK' j hk with hk | hk
    · exact (h3 j hj).2.2 hk
    · have := h1.2.1 j hj; omega
  · intro j hj
    refine ⟨(h4 j hj).1, fun hk => ?_⟩
    rcases hK' j hk with hk | hk
    · exact (h4 j hj).2 hk
    · have := h2.2.1 j hj; omega
  · intro j hj
    rcases hK' j hj with hk | hk
    · have := h5 j hk; omega
    · exact hk.2
theorem Pair.less {w wr : World} {d r : Nat} {K K' : Nat → Prop} {M : D} {N : R} (h : Pair w wr d r K M N) (hK' : ∀ j, K' j → K j) : Pair w wr d r K' M N :=
  h.wider (Below.refl _ _) fun j hj => .inl (hK' j hj)

theorem pair_d {w wr w' : World} {d r : Nat} {K F G : Nat → Prop} {M' : D} {N : R} (h2 : RDev wr G r N) (h3 : ∀ j, F j → w.heap.size ≤ j ∧ ¬ G j ∧ ¬ K j) (h4 : ∀ j, G j → w.heap.size ≤ j ∧ ¬ K j) (h5 : ∀ j, K j → j < wr.heap.size) (h6 : Below w.heap.size w wr) (hD : Dev w' (Grow F wr w') d M') (hT : Turn F wr w') :
    Pair w w' d r K M' N ∧ ∀ j, K j → w'.heap[j]? = wr.heap[j]? := by
  have s1 := h6.size
  have s2 := hT.size
  refine ⟨⟨_, G, hD, h2.other hT (fun k hk hf => (h3 k hf).2.1 hk), ?_, h4, fun j hj => by have := h5 j hj; omega, h6.trans (hT.below (fun k hk => (h3 k hk).1) s1)⟩, fun j hj => hT.block j (h5 j hj) (fun hf => (h3 j hf).2.2 hj)⟩
  intro j hj
  rcases hj with hj | hj
  · exact h3 j hj
  · refine ⟨by omega, fun hg => ?_, fun hk => ?_⟩
    · have := h2.2.1 j hg; omega
    · have := h5 j hk; omega
theorem pair_r {w wr w' : World} {d r : Nat} {K F G : Nat → Prop} {M : D} {N' : R} (h1 : Dev wr F d M) (h3 : ∀ j, F j → w.heap.size ≤ j ∧ ¬ G j ∧ ¬ K j) (h4 : ∀ j, G j → w.heap.size ≤ j ∧ ¬ K j) (h5 : ∀ j, K j → j < wr.heap.size) (h6 : Below w.heap.size w wr) (hD : RDev w' (Grow G wr w') r N') (hT : Turn G wr w') :
    Pair w w' d r K M N' ∧ ∀ j, K j → w'.heap[j]? = wr.heap[j]? := by
  have s1 := h6.size
  have s2 := hT.size
  refine ⟨⟨F, _, h1.other hT (fun k hk => (h3 k hk).2.1), hD, ?_, ?_, fun j hj => by have := h5 j hj; omega, h6.trans (hT.below (fun k hk => (h4 k hk).1) s1)⟩, fun j hj => hT.block j (h5 j hj) (fun hf => (h4 j hf).2 hj)⟩
  · intro j hj
    refine ⟨(h3 j hj).1, fun hg => ?_, (h3 j hj).2.2⟩
    rcases hg with hg | hg
    · exact (h3 j hj).2.1 hg
    · have := h1.2.1 j hj; omega
  · intro j hj
    rcases hj with hj | hj
    · exact h4 j hj
    · exact ⟨by omega, fun hk => by have := h5 j hk; omega⟩

theorem p_write {w wr : World} {d r g cap : Nat} {K : Nat → Prop} {M : D} {N : R} (i : Int) {l : List UInt8} (h : Pair w wr d r K M N) (hg : K g) (hby : Bytes wr (some ⟨g, 0, none⟩) l) (hC : M.C.length ≤ 100000) :
    Calls Try.prog 21 #[.pointer (some ⟨d, 0, none⟩), .int .i64 i, .slice (some ⟨g, 0, none⟩) l.length cap] wr fun e w' => e = .returned (.int .i64 (M.wr i ⟨l.toArray⟩).1) ∧ Pair w w' d r K (M.wr i ⟨l.toArray⟩).2 N ∧ ∀ j, K j → w'.heap[j]? = wr.heap[j]? := by
  obtain ⟨F, G, h1, h2, h3, h4, h5, h6⟩ := h
  refine (write_any d i (some ⟨g, 0, none⟩) l cap wr F M h1 hby (fun ad e hf => by
    simp only [Option.some.injEq] at e
    subst e
    exact (h3 _ hf).2.2 hg) hC).mono ?_
  rintro e w' ⟨rfl, hD, hT⟩
  exact ⟨rfl, pair_d h2 h3 h4 h5 h6 hD hT⟩
theorem p_flush {w wr : World} {d r : Nat} {K : Nat → Prop} {M : D} {N : R} (h : Pair w wr d r K M N) (hC : M.C.length ≤ 100000) :
    Calls Try.prog 87 #[.pointer (some ⟨d, 0, none⟩)] wr fun e w' => e = .returned (.int .i64 M.flush.1) ∧ Pair w w' d r K M.flush.2 N ∧ ∀ j, K j → w'.heap[j]? = wr.heap[j]? := by
  obtain ⟨F, G, h1, h2, h3, h4, h5, h6⟩ := h
  refine (flush_any d wr F M h1 hC).mono ?_
  rintro e w' ⟨rfl, hD, hT⟩
  exact ⟨rfl, pair_d h2 h3 h4 h5 h6 hD.grow hT⟩
theorem p_fuse {w wr : World} {d r : Nat} {K : Nat → Prop} {M : D} {N : R} (q : Int) (h : Pair w wr d r K M N) (hq : q ≤ 9223372036854775807) :
    Calls Try.prog 19 #[.pointer (some ⟨d, 0, none⟩), .int .i64 q] wr fun e w' => e = .returned (.tuple #[]) ∧ Pair w w' d r K (M.fuse q) N ∧ ∀ j, K j → w'.heap[j]? = wr.heap[j]? := by
  obtain ⟨F, G, h1, h2, h3, h4, h5, h6⟩ := h
  refine (fuse_any d q wr F M h1 hq).mono ?_
  rintro e w' ⟨rfl, hD, hT⟩
  exact ⟨rfl, pair_d h2 h3 h4 h5 h6 hD.grow hT⟩
theorem bools_old {w wr : World} {a : Option Addr} {keep : List Bool} (h3 : Below w.heap.size w wr) (hk : Bools w a keep) : Bools wr a keep ∧ (0 < keep.length → ∀ ad, a = some ad → ad.block < w.heap.size) := by
  rcases hk with rfl | ⟨b, off, rfl, hb', hc⟩
  · exact ⟨.inl rfl, fun h => by simp at h⟩
  · refine ⟨.inr ⟨b, off, rfl, by have := h3.size; omega, fun j hj => (h3.cell (p := ⟨b, off + j, none⟩) hb').trans (hc j hj)⟩, fun _ ad e => ?_⟩
    simp only [Option.some.injEq] at e
    subst e
    exact hb'
theorem p_crash {w wr : World} {d r cap : Nat} {a : Option Addr} {keep : List Bool} {K : Nat → Prop} {M : D} {N : R} (h : Pair w wr d r K M N) (hk : Bools w a keep) (hC : M.C.length ≤ 100000) :
    Calls Try.prog 23 #[.pointer (some ⟨d, 0, none⟩), .slice a keep.length cap] wr fun e w' => e = .returned (.tuple #[]) ∧ Pair w w' d r K (M.crash keep) N ∧ ∀ j, K j → w'.heap[j]? = wr.heap[j]? := by
  obtain ⟨F, G, h1, h2, h3, h4, h5, h6⟩ := h
  obtain ⟨hkr, ha⟩ := bools_old h6 hk
  refine (crash_any d a keep cap wr F M h1 hkr (fun h0 ad e hf => by have := ha h0 ad e; have := (h3 _ hf).1; omega) hC).mono ?_
  rintro e w' ⟨rfl, hD, hT⟩
  exact ⟨rfl, pair_d h2 h3 h4 h5 h6 hD hT⟩
theorem p_rwrite {w wr : World} {d r : Nat} {K : Nat → Prop} {M : D} {N : R} (i : Int) (b : ByteArray) (h : Pair w wr d r K M N) (hC : N.W.length ≤ 100000) :
    Calls Try.prog 22 #[.pointer (some ⟨r, 0, none⟩), .int .i64 i, .string b] wr fun e w' => e = .returned (.int .i64 (N.wr i b).1) ∧ Pair w w' d r K M (N.wr i b).2 ∧ ∀ j, K j → w'.heap[j]? = wr.heap[j]? := by
  obtain ⟨F, G, h1, h2, h3, h4, h5, h6⟩ := h
  refine (refwrite_any r i b wr G N h2 hC).mono ?_
  rintro e w' ⟨rfl, hD, hT⟩
  exact ⟨rfl, pair_r h1 h3 h4 h5 h6 hD hT⟩
theorem p_rflush {w wr : World} {d r : Nat} {K : Nat → Prop} {M : D} {N : R} (h : Pair w wr d r K M N) (hC : N.W.length ≤ 100000) :
    Calls Try.prog 52 #[.pointer (some ⟨r, 0, none⟩)] wr fun e w' => e = .returned (.int .i64 N.flush.1) ∧ Pair w w' d r K M N.flush.2 ∧ ∀ j, K j → w'.heap[j]? = wr.heap[j]? := by
  obtain ⟨F, G, h1, h2, h3, h4, h5, h6⟩ := h
  refine (refflush_any r wr G N h2 hC).mono ?_
  rintro e w' ⟨rfl, hD, hT⟩
  exact ⟨rfl, pair_r h1 h3 h4 h5 h6 hD.grow hT⟩
theorem p_rcrash {w wr : World} {d r cap : Nat} {a : Option Addr} {keep : List Bool} {K : Nat → Prop} {M : D} {N : R} (h : Pair w wr d r K M N) (hk : Bools w a keep) (hC : N.W.length ≤ 100000) :
    Calls Try.prog 24 #[.pointer (some ⟨r, 0, none⟩), .slice a keep.length cap] wr fun e w' => e = .returned (.tuple #[]) ∧ Pair w w' d r K M (N.crash keep) ∧ ∀ j, K j → w'.heap[j]? = wr.heap[j]? := by
  obtain ⟨F, G, h1, h2, h3, h4, h5, h6⟩ := h
  obtain ⟨hkr, ha⟩ := bools_old h6 hk
  refine (refcrash_any r a keep cap wr G N h2 hkr (fun h0 ad e hf => by have := ha h0 ad e; have := (h4 _ hf).1; omega) hC).mono ?_
  rintro e w' ⟨rfl, hD, hT⟩
  exact ⟨rfl, pair_r h1 h3 h4 h5 h6 hD.grow hT⟩
theorem p_rfuse {w wr : World} {d r : Nat} {K : Nat → Prop} {M : D} {N : R} (q : Int) (h : Pair w wr d r K M N) (hq : q ≤ 9223372036854775807) :
    Pair w (wr.setCell ⟨r, 2, none⟩ (.int .i64 (max q (-1)))) d r K M (N.fuse q) ∧ wr.cell? ⟨r, 2, none⟩ = some (.int .i64 N.f) ∧ wr.frozen? ⟨r, 2, none⟩ = false := by
  obtain ⟨F, G, h1, h2, h3, h4, h5, h6⟩ := h
  obtain ⟨hD, hT⟩ := h2.fuse q hq
  obtain ⟨gl, cl, ca, cc, hV, _⟩ := h2.open
  exact ⟨(pair_r h1 h3 h4 h5 h6 hD.grow hT).1, cell_blk hV.blk 2, frozen_blk hV.blk 2⟩
theorem p_rread {w wr : World} {d r : Nat} {K : Nat → Prop} {M : D} {N : R} (i : Int) (h : Pair w wr d r K M N) (hC : N.W.length ≤ 100000) :
    Calls Try.prog 59 #[.pointer (some ⟨r, 0, none⟩), .int .i64 i] wr fun e w' => e = .returned (.tuple #[.string (N.rd i).1, .int .i64 (N.rd i).2]) ∧ wr = w' := by
  obtain ⟨F, G, h1, h2, h3, h4, h5, h6⟩ := h
  exact refread_any r i wr G N h2 hC
/-- What Read tells: a row of its own, or nothing. -/
theorem p_read {w wr : World} {d r : Nat} {K : Nat → Prop} {M : D} {N : R} (i : Int) (h : Pair w wr d r K M N) (hs : Sim M N) :
    Calls Try.prog 58 #[.pointer (some ⟨d, 0, none⟩), .int .i64 i] wr fun e w' => ∃ a cap, e = .returned (.tuple #[.slice a (N.rd i).1.size cap, .int .i64 (N.rd i).2]) ∧ Below wr.heap.size wr w' ∧
      ((a = none ∧ (N.rd i).1 = ⟨#[]⟩) ∨ ∃ g, a = some ⟨g, 0, none⟩ ∧ Fresh w' g (N.rd i).1 ∧ wr.heap.size ≤ g) := by
  obtain ⟨F, G, h1, h2, h3, h4, h5, h6⟩ := h
  by_cases hd : M.st = 2
  · rw [sim_rd_dead hs hd]
    refine (read_dead d i wr F M h1 hd).mono ?_
    rintro e w' ⟨rfl, rfl⟩
    exact ⟨none, 0, rfl, Below.refl _ _, .inl ⟨rfl, rfl⟩⟩
  · by_cases hi : 0 ≤ i ∧ i < (M.L.length : Int)
    · obtain ⟨i1, i2⟩ := hi
      obtain ⟨n, rfl⟩ := Int.eq_ofNat_of_zero_le i1
      have hn : n < M.S.length := by rw [h1.1.len]; omega
      rw [sim_rd_ok hs hd hn]
      refine (read_ok d n wr F M h1 hd hn).mono ?_
      rintro e w' ⟨g, cap, rfl, hf, hg, hb⟩
      exact ⟨_, cap, rfl, hb, .inr ⟨g, rfl, hf, hg⟩⟩
    · rw [sim_rd_arg hs hd hi]
      refine (read_arg d i wr F M h1 hd hi).mono ?_
      rintro e w' ⟨rfl, rfl⟩
      exact ⟨none, 0, rfl, Below.refl _ _, .inl ⟨rfl, rfl⟩⟩
theorem p_pend {w wr : World} {d r : Nat} {K : Nat → Prop} {M : D} {N : R} (h : Pair w wr d r K M N) :
    Calls Try.prog 29 #[.pointer (some ⟨d, 0, none⟩)] wr fun e w' => e = .returned (.int .i64 (M.C.length : Int)) ∧ wr = w' := by
  obtain ⟨F, G, h1, _⟩ := h
  exact pending_any d wr F M h1
theorem p_size {w wr : World} {d r : Nat} {K : Nat → Prop} {M : D} {N : R} (h : Pair w wr d r K M N) :
    Calls Try.prog 73 #[.pointer (some ⟨d, 0, none⟩)] wr fun e w' => e = .returned (.int .i64 (M.L.length : Int)) ∧ wr = w' := by
  obtain ⟨F, G, h1, _⟩ := h
  exact size_any d wr F M h1
theorem p_cells {w wr : World} {d r : Nat} {K : Nat → Prop} {M : D} {N : R} (h : Pair w wr d r K M N) :
    ∃ ca cc, wr.cell? ⟨r, 1, none⟩ = some (.slice ca N.W.length cc) ∧ wr.cell? ⟨r, 3, none⟩ = some (.bool N.dead) := by
  obtain ⟨F, G, h1, h2, _⟩ := h
  obtain ⟨gl, cl, ca, cc, hV, _⟩ := h2.open
  exact ⟨ca, cc, cell_blk hV.blk 1, cell_blk hV.blk 3⟩
theorem pair_make {w w1 w2 : World} {d r : Nat} {M : D} {N : R} (hD : Dev w1 (fun k => w.heap.size ≤ k ∧ k < w1.heap.size) d M) (hb : Below w.heap.size w w1) (hR : RDev w2 (fun k => w1.heap.size ≤ k ∧ k < w2.heap.size) r N) (hb2 : Below w1.heap.size w1 w2) : Pair w w2 d r (fun _ => False) M N := by
  have s1 := hb.size
  have s2 := hb2.size
  refine ⟨_, _, hD.below hb2, hR, ?_, ?_, fun j hj => hj.elim, hb.trans (hb2.mono s1)⟩
  · intro j hj
    exact ⟨hj.1, fun hg => by omega, fun h => h⟩
  · intro j hj
    exact ⟨by omega, fun h => h⟩
end Go.Proofs.Ytecljiefljgfmaa
