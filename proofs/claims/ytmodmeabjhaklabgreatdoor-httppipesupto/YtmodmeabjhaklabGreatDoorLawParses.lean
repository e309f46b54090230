/-
  HttpParses: the law's walk.
-/
import Derived.Test.YtmodmeabjhaklabGreatDoorRfW
import Derived.Test.YtmodmeabjhaklabGreatDoorLawCuts
namespace Go.Proofs.YtmodmeabjhaklabGreatDoor
open Go.RowKit

theorem TbR.below {w w' : World} {base : Nat} {t : Tl} {T : Tld} (h : TbR w base t T) (hb : Below w.heap.size w w') : TbR w' base t T := by
  cases T with
  | more => exact h
  | bad e => exact h
  | done u m tt hs b cl co =>
    obtain ⟨a1, c1, a2, c2, h1, h2, h3, h4, h5⟩ := h
    exact ⟨a1, c1, a2, c2, h1, h2.below hb (Nat.le_refl _), h3.below hb (Nat.le_refl _), h4, h5⟩
theorem TlR.tb {w : World} {base : Nat} {t : Tl} {T : Tld} (h : TlR w base t T) : TbR w base t T := by
  cases T with
  | more => exact h
  | bad e => exact h
  | done u m tt hs b cl co =>
    obtain ⟨hv, bv, h1, h2, h3⟩ := h
    obtain ⟨a1, c1, e1, h4⟩ := own_hdrs h2
    obtain ⟨a2, c2, e2, h5⟩ := Own.bytes h3
    subst e1 e2
    exact ⟨a1, c1, a2, c2, h1, h4, h5, own_blk h2, own_blk h3⟩
set_option maxRecDepth 20000 in
set_option maxHeartbeats 4000000 in
theorem same9 (k u f : Int) (m t : List UInt8) (hs : List Hd) (b : List UInt8) (cl co : Bool) (a1 a3 : Option Addr) (c1 c3 : Nat) (a2 a4 : Option Addr) (c2 c4 : Nat) (w : World) (h1 : Hdrs w a1 hs) (h2 : Bytes w a2 b) (h3 : Hdrs w a3 hs) (h4 : Bytes w a4 b) (hl : hs.length ≤ 1000000000) :
    Calls Tryz.prog 7 #[.agg #[.int .i64 k, .int .i64 u, .string ⟨m.toArray⟩, .string ⟨t.toArray⟩, .slice a1 hs.length c1, .slice a2 b.length c2, .int .i64 f, .bool cl, .bool co], .agg #[.int .i64 k, .int .i64 u, .string ⟨m.toArray⟩, .string ⟨t.toArray⟩, .slice a3 hs.length c3, .slice a4 b.length c4, .int .i64 f, .bool cl, .bool co]] w fun e w' => e = .returned (.bool true) ∧ Below w.heap.size w w' := by
  obtain ⟨N, hN⟩ : ∃ N, N = w.heap.size := ⟨_, rfl⟩
  obtain ⟨W1, hW1⟩ : ∃ W1, W1 = w.alloc (.cells #[.int .i64 k, .int .i64 u, .string ⟨m.toArray⟩, .string ⟨t.toArray⟩, .slice a1 hs.length c1, .slice a2 b.length c2, .int .i64 f, .bool cl, .bool co] 28) := ⟨_, rfl⟩
  obtain ⟨W, hW⟩ : ∃ W, W = W1.alloc (.cells #[.int .i64 k, .int .i64 u, .string ⟨m.toArray⟩, .string ⟨t.toArray⟩, .slice a3 hs.length c3, .slice a4 b.length c4, .int .i64 f, .bool cl, .bool co] 34) := ⟨_, rfl⟩
  have hs1 : W1.heap.size = N + 1 := by rw [hW1, hN]; show (w.heap.push _).size = _; simp
  have hbW : Below w.heap.size w W := by rw [hW, hW1]; exact ((Below.refl _ _).alloc (Nat.le_refl _) _).alloc (by simp) _
  have n2 : W.heap[N + 1]? = some (.cells #[.int .i64 k, .int .i64 u, .string ⟨m.toArray⟩, .string ⟨t.toArray⟩, .slice a3 hs.length c3, .slice a4 b.length c4, .int .i64 f, .bool cl, .bool co] 34 (0, 0)) := by rw [← hs1, hW]; exact heap_alloc_new W1 _
  have n1 : W.heap[N]? = some (.cells #[.int .i64 k, .int .i64 u, .string ⟨m.toArray⟩, .string ⟨t.toArray⟩, .slice a1 hs.length c1, .slice a2 b.length c2, .int .i64 f, .bool cl, .bool co] 28 (0, 0)) := by
    rw [hW]
    refine (Below.heap_alloc W1 _ N (by omega)).trans ?_
    rw [hW1, hN]
    exact heap_alloc_new w _
  have SM := (show Hid _ from same_any m t hs b a1 a3 c1 c3 a2 a4 c2 c4 W (h1.below hbW (Nat.le_refl _)) (h3.below hbW (Nat.le_refl _)) (h2.below hbW (Nat.le_refl _)) (h4.below hbW (Nat.le_refl _)) hl)
  have H := (show Hid _ from And.intro n1 (And.intro n2 hbW))
  unfold rqV at SM
  clear h1 h2 h3 h4 hs1 hbW
  go_enter Tryz.func7, Tryz.ntmps7
  go_upto_region 1 with fail
  rw [← hN, ← hW1, ← hW]
  clear hN hW1 hW
  have x0 := cell_blk n1 0
  have x1 := cell_blk n1 1
  have x2 := cell_blk n1 2
  have x3 := cell_blk n1 3
  have x4 := cell_blk n1 4
  have x5 := cell_blk n1 5
  have y0 := cell_blk n2 0
  have y1 := cell_blk n2 1
  have y2 := cell_blk n2 2
  have y3 := cell_blk n2 3
  have y4 := cell_blk n2 4
  have y5 := cell_blk n2 5
  simp at x0 x1 x2 x3 x4 x5 y0 y1 y2 y3 y4 y5
  clear n1 n2
  go_wp2_with fail
  refine Calls.mono SM.out ?_
  rintro e w2 ⟨rfl, hb2⟩
  have n1 := (hb2.block N (blk_lt H.out.1)).trans H.out.1
  have n2 := (hb2.block (N + 1) (blk_lt H.out.2.1)).trans H.out.2.1
  have u6 := cell_blk n1 6
  have u7 := cell_blk n1 7
  have u8 := cell_blk n1 8
  have v6 := cell_blk n2 6
  have v7 := cell_blk n2 7
  have v8 := cell_blk n2 8
  simp at u6 u7 u8 v6 v7 v8
  have HB := (show Hid _ from H.out.2.2.trans (hb2.mono H.out.2.2.size))
  clear n1 n2 hb2 SM H
  cases cl <;> cases co
  all_goals
    go_wp2
    go_ret
    exact ⟨rfl, HB.out⟩
theorem sameStep_any {w : World} {B1 B2 : Nat} {T1 T2 : Tl} {T : Tld} (h1 : TbR w B1 T1 T) (h2 : TbR w B2 T2 T) (hl : ∀ u m t hs b cl co, T = .done u m t hs b cl co → hs.length ≤ 1000000000) :
    Calls Tryz.prog 7 #[T1.v, T2.v] w fun e w' => e = .returned (.bool true) ∧ Below w.heap.size w w' := by
  cases T with
  | more =>
    rw [show T1 = moreT from h1, show T2 = moreT from h2]
    exact same9 1 0 0 [] [] [] [] false false none none 0 0 none none 0 0 w (.inl rfl) (.inl rfl) (.inl rfl) (.inl rfl) (by simp)
  | bad e =>
    rw [show T1 = badT e from h1, show T2 = badT e from h2]
    exact same9 3 0 e [] [] [] [] true false none none 0 0 none none 0 0 w (.inl rfl) (.inl rfl) (.inl rfl) (.inl rfl) (by simp)
  | done u m t hs b cl co =>
    obtain ⟨a1, c1, a2, c2, rfl, g1, g2, -, -⟩ := h1
    obtain ⟨a3, c3, a4, c4, rfl, g3, g4, -, -⟩ := h2
    exact same9 2 (u : Int) 0 m t hs b cl co a1 a3 c1 c3 a2 a4 c2 c4 w g1 g2 g3 g4 (hl _ _ _ _ _ _ _ rfl)
end Go.Proofs.YtmodmeabjhaklabGreatDoor
