/-
  HttpLent: the law's walk.
-/
import Derived.Test.YtmodmeabjhaklabGreatDoorLawParses
import Derived.Test.YtmodmeabjhaklabGreatDoorRunE
import Derived.Deep.Cut
import Derived.Deep.RegionHeld3
import Derived.Laws.AppendOwnNone
namespace Go.Proofs.YtmodmeabjhaklabGreatDoor
open Go.RowKit

theorem tl_ex (T : Tl) (h : (∃ x y z, T.h = .slice x y z) ∧ ∃ x y z, T.b = .slice x y z) : ∃ k u m t x1 y1 z1 x2 y2 z2 f a b, T = ⟨k, u, m, t, .slice x1 y1 z1, .slice x2 y2 z2, f, a, b⟩ := by
  obtain ⟨k, u, m, t, th, tb, f, a, b⟩ := T
  obtain ⟨⟨x1, y1, z1, h1⟩, ⟨x2, y2, z2, h2⟩⟩ := h
  dsimp only at h1 h2
  subst h1 h2
  exact ⟨_, _, _, _, _, _, _, _, _, _, _, _, _, rfl⟩
theorem row_some {w : World} {base : Nat} {e : TypeId} {size : Nat} {x : Option Addr} {n c : Nat} {xs : List Value} (h : w.ownsRow base e size (.slice x n c) n xs) (hn : 0 < n) : ∃ g, x = some ⟨g, 0, none⟩ ∧ base ≤ g ∧ g < w.heap.size := by
  have hlt := World.ownsRow.lt h
  rcases h.2 with ⟨_, h'⟩ | ⟨g, cap, cur, hv, hb, hh, _⟩
  · omega
  · simp only [Value.slice.injEq] at hv
    obtain ⟨rfl, _, _⟩ := hv
    exact ⟨g, rfl, hlt g rfl⟩
theorem row_len {w : World} {base : Nat} {e : TypeId} {size : Nat} {x : Option Addr} {n c : Nat} {xs : List Value} (h : w.ownsRow base e size (.slice x n c) n xs) : n ≤ maxLen := by
  rcases h.2 with ⟨_, h'⟩ | ⟨g, cap, cur, hv, hb, hh, hn, hm, _⟩
  · omega
  · exact Nat.le_trans hn hm
theorem prefix_bytes {w : World} {base g n c : Nat} {l : List UInt8} {u : Value} (hn : l.length = n) (h : w.ownsRow base 5 1 (.slice (some ⟨g, 0, none⟩) (n + 1) c) (n + 1) (bcs l ++ [u])) : Bytes w (some ⟨g, 0, none⟩) l := by
  have hlt := (World.ownsRow.lt h g rfl).2
  refine .inr ⟨g, 0, rfl, hlt, fun j hj => ?_⟩
  rw [Nat.zero_add, h.cellAt j (by omega), List.getElem?_append_left (by rw [bcs_length]; exact hj), bcs_get hj]
theorem TlR.rows {w : World} {base : Nat} {k u f : Int} {m t : ByteArray} {x1 x2 : Option Addr} {y1 z1 y2 z2 : Nat} {cl co : Bool} {T : Tld} (h : TlR w base ⟨k, u, m, t, .slice x1 y1 z1, .slice x2 y2 z2, f, cl, co⟩ T) : (∃ xs, w.ownsRow base 31 2 (.slice x1 y1 z1) y1 xs) ∧ ∃ ys, w.ownsRow base 5 1 (.slice x2 y2 z2) y2 ys := by
  cases T with
  | more =>
    simp only [TlR, moreT, Tl.mk.injEq, Value.slice.injEq] at h
    obtain ⟨-, -, -, -, ⟨rfl, rfl, rfl⟩, ⟨rfl, rfl, rfl⟩, -⟩ := h
    exact ⟨⟨_, World.ownsRow_nil _ _ _ _⟩, ⟨_, World.ownsRow_nil _ _ _ _⟩⟩
  | bad e =>
    simp only [TlR, badT, Tl.mk.injEq, Value.slice.injEq] at h
    obtain ⟨-, -, -, -, ⟨rfl, rfl, rfl⟩, ⟨rfl, rfl, rfl⟩, -⟩ := h
    exact ⟨⟨_, World.ownsRow_nil _ _ _ _⟩, ⟨_, World.ownsRow_nil _ _ _ _⟩⟩
  | done u m tt hs b cl co =>
    obtain ⟨hv, bv, h1, h2, h3⟩ := h
    simp only [Tl.mk.injEq] at h1
    obtain ⟨-, -, -, -, rfl, rfl, -⟩ := h1
    obtain ⟨a1, c1, e1⟩ := own_slice h2
    obtain ⟨a2, c2, e2⟩ := own_slice h3
    simp only [Value.slice.injEq] at e1 e2
    obtain ⟨rfl, rfl, rfl⟩ := e1
    obtain ⟨rfl, rfl, rfl⟩ := e2
    exact ⟨⟨_, h2⟩, ⟨_, h3⟩⟩
theorem TlR.md {w w' : World} {base : Nat} {t : Tl} {T : Tld} {F : Nat → Prop} (h : TlR w base t T) (hm : Md F w w') (hF : ∀ j, base ≤ j → ¬ F j) : TlR w' base t T := by
  cases T with
  | more => exact h
  | bad e => exact h
  | done u m tt hs b cl co =>
    obtain ⟨hv, bv, h1, h2, h3⟩ := h
    exact ⟨hv, bv, h1, own_md h2 hm (fun j hj => hF j (World.ownsRow.lt h2 j hj).1), own_md h3 hm (fun j hj => hF j (World.ownsRow.lt h3 j hj).1)⟩
theorem nine_of {W : World} {N : Nat} {v0 v1 v2 v3 v4 v5 v6 v7 v8 : Value} {t : TypeId} (h : W.heap[N]? = some (.cells #[v0, v1, v2, v3, v4, v5, v6, v7, v8] t)) :
    W.cell? ⟨N, 0, none⟩ = some v0 ∧ W.cell? ⟨N, 1, none⟩ = some v1 ∧ W.cell? ⟨N, 2, none⟩ = some v2 ∧ W.cell? ⟨N, 3, none⟩ = some v3 ∧ W.cell? ⟨N, 4, none⟩ = some v4 ∧ W.cell? ⟨N, 5, none⟩ = some v5 ∧ W.cell? ⟨N, 6, none⟩ = some v6 ∧ W.cell? ⟨N, 7, none⟩ = some v7 ∧ W.cell? ⟨N, 8, none⟩ = some v8 := by
  have e0 := cell_blk h 0
  have e1 := cell_blk h 1
  have e2 := cell_blk h 2
  have e3 := cell_blk h 3
  have e4 := cell_blk h 4
  have e5 := cell_blk h 5
  have e6 := cell_blk h 6
  have e7 := cell_blk h 7
  have e8 := cell_blk h 8
  simp at e0 e1 e2 e3 e4 e5 e6 e7 e8
  exact ⟨e0, e1, e2, e3, e4, e5, e6, e7, e8⟩
set_option maxRecDepth 20000 in
set_option maxHeartbeats 8000000 in
theorem httpLent_walk (a : Option Addr) (l : List UInt8) (cap : Nat) (w : World) (hB : Bytes w a l) (han : a = none → cap = 0) (hl : l.length ≤ 100000000) (hm : Mx w) (he : Er w) :
    Calls Tryz.prog 3 #[.slice a l.length cap] w fun e w' => e = .returned (.bool true) ∧ Below w.heap.size w w' := by
  have AW := (show Hid (∀ W, Below w.heap.size w W → Calls Tryz.prog 9 #[] W fun e w' => e = .returned (.bool true) ∧ Below w.heap.size w w') from fun W hW => (awake_any W (hm.below hW (Nat.le_refl _)) (he.below hW (Nat.le_refl _))).mono fun e w' ⟨h1, h2⟩ => ⟨h1, hW.trans (h2.mono hW.size)⟩)
  have HW0 := (show Hid (Bytes w a l ∧ Mx w ∧ Er w) from ⟨hB, hm, he⟩)
  have HAn := (show Hid (a = none → cap = 0) from han)
  clear hB hm he han
  have hO0 : Own (w.alloc (.cells #[] 5)) w.heap.size (.slice (some ⟨w.heap.size, 0, none⟩) 0 0) [] := World.ownsRow_lit w #[] 0 (Nat.le_refl _) (by decide) rfl
  have hBp : Bytes (w.alloc (.cells #[] 5)) a l := HW0.out.1.below ((Below.refl _ _).alloc (Nat.le_refl _) _) (Nat.le_refl _)
  go_enter Tryz.func3, Tryz.ntmps3
  go_wp2_with (at_builtin; refine wpList_append_bytes rfl (.tmp 9) (.tmp 10) rfl w.heap.size _ [] rfl hO0 a l cap rfl hBp HAn.out ?c1 ?c2 ?_)
  case c1 => simp only [List.length_nil]; omega
  case c2 => simp
  intro v4 w4 hO4 hG4
  have hB4 : Below w.heap.size w w4 := ((Below.refl _ w).alloc (Nat.le_refl _) _).grown hG4 (by simp) (by intro j hj; simp [Value.ownBlock] at hj; omega)
  have hz4 := hB4.size
  clear hO0 hBp hG4
  obtain ⟨i0, hi, hi0, hi1, hi2⟩ := info_parts info5
  have hO4' : w4.ownsRow w.heap.size 5 1 v4 ([] ++ l).length (bcs ([] ++ l)) := hO4
  rw [List.nil_append] at hO4'
  clear hO4
  go_wp2_with (at_builtin; refine wpList_append_own _ rfl (.tmp 11) (.tmp 12) 22 rfl w.heap.size 5 i0 (.int .u8 0) 1 1 Tryz.underlying22 hi hi0 hi1 hi2 rfl (by decide) _ _ _ rfl (hO4'.alloc _) ⟨w4.heap.size, 0, none⟩ 1 1 [.int .u8 77] rfl rfl ?d1 ?d2 ?d3 ?d4 ?d5 ?_)
  case d1 => exact cell_one_new _ _ _
  case d2 => exact one_one _ rfl
  case d3 => unfold maxLen; omega
  case d4 => omega
  case d5 => simp; omega
  intro v5 w5 hO5 hG5 _
  have hB5 : Below w.heap.size w w5 := (hB4.alloc hz4 _).grown hG5 (by simp; omega) (fun j hj => (hO4'.lt j hj).1)
  obtain ⟨xo, co, ho5⟩ : ∃ xo co, v5 = .slice xo (l.length + 1) co ∧ l.length + 1 ≤ co := by
    rcases hO5.2 with ⟨_, h'⟩ | ⟨g, c', cur, h', _, _, hn, _⟩
    · omega
    · exact ⟨_, c', h', hn⟩
  obtain ⟨rfl, hco⟩ := ho5
  obtain ⟨g, rfl, hgo, hgs⟩ := row_some hO5 (by omega)
  have hbO : Bytes w5 (some ⟨g, 0, none⟩) l := prefix_bytes rfl hO5
  have HPr := (show Hid (∀ W, Below w5.heap.size w5 W → Calls Tryz.prog 6 #[.slice (some ⟨g, 0, none⟩) l.length co] W fun e w' => ∃ T : Tl, e = .returned T.v ∧ TlR w' W.heap.size T (parseL l) ∧ Below W.heap.size W w') from fun W hW => parse_any (some ⟨g, 0, none⟩) l co W (by omega) (hbO.below hW (Nat.le_refl _)) (fun x hx => by
      simp only [Option.some.injEq] at hx
      subst hx
      exact ⟨rfl, by have := hW.size; simp only; omega⟩) (fun h => by cases h) (by omega) ((HW0.out.2.1.below hB5 (Nat.le_refl _)).below hW (Nat.le_refl _)) ((HW0.out.2.2.below hB5 (Nat.le_refl _)).below hW (Nat.le_refl _)))
  have H5 := (show Hid _ from And.intro hO5 (And.intro hB5 (And.intro hgo hgs)))
  have hco' : (l.length : Int) ≤ (co : Int) := by omega
  clear hB4 hz4 hO4' hO5 hG5 hB5 hbO hgo hgs
  go_wp2_with fail
  refine Calls.mono (HPr.out w5 (Below.refl _ _)) ?_
  rintro e w6 ⟨T1, rfl, h1, hb6⟩
  obtain ⟨k1, u1, m1, t1, x1, y1, z1, x2, y2, z2, f1, cl1, co1, rfl⟩ := tl_ex T1 h1.form
  simp only [Tl.v]
  have H1 := (show Hid _ from And.intro h1 hb6)
  clear h1 hb6
  obtain ⟨WS, hWS⟩ : ∃ WS, WS = w6.alloc (.cells #[.int .i64 k1, .int .i64 u1, .string m1, .string t1, .slice x1 y1 z1, .slice x2 y2 z2, .int .i64 f1, .bool cl1, .bool co1] 28) := ⟨_, rfl⟩
  obtain ⟨Ns, hNs⟩ : ∃ Ns, Ns = w6.heap.size := ⟨_, rfl⟩
  have hbS : Below w6.heap.size w6 WS := by rw [hWS]; exact (Below.refl _ _).alloc (Nat.le_refl _) _
  have hnS : WS.heap[Ns]? = some (.cells #[.int .i64 k1, .int .i64 u1, .string m1, .string t1, .slice x1 y1 z1, .slice x2 y2 z2, .int .i64 f1, .bool cl1, .bool co1] 28 (0, 0)) := by rw [hWS, hNs]; exact heap_alloc_new w6 _
  have HS := (show Hid _ from And.intro hbS hnS)
  have hb5S := H1.out.2.trans (hbS.mono H1.out.2.size)
  have HP2 := (show Hid _ from HPr.out WS hb5S)
  clear hbS hnS hb5S HPr
  go_wp2_with fail
  rw [← hWS, ← hNs]
  have HNs : Hid (Ns = w6.heap.size) := hNs
  clear hWS hNs
  refine Calls.mono HP2.out ?_
  clear HP2
  rintro e w7 ⟨T2, rfl, h2, hb7⟩
  obtain ⟨k3, u3, m3, t3, x3, y3, z3, x4, y4, z4, f3, cl3, co3, rfl⟩ := tl_ex T2 h2.form
  simp only [Tl.v]
  have H2 := (show Hid _ from And.intro h2 hb7)
  clear h2 hb7
  go_upto_region 4 with fail
  obtain ⟨W8, hW8⟩ : ∃ W8, W8 = w7.alloc (.cells #[.int .i64 k3, .int .i64 u3, .string m3, .string t3, .slice x3 y3 z3, .slice x4 y4 z4, .int .i64 f3, .bool cl3, .bool co3] 28) := ⟨_, rfl⟩
  obtain ⟨Nt, hNt⟩ : ∃ Nt, Nt = w7.heap.size := ⟨_, rfl⟩
  rw [← hW8, ← hNt]
  have hb8 : Below w7.heap.size w7 W8 := by rw [hW8]; exact (Below.refl _ _).alloc (Nat.le_refl _) _
  have hnT : W8.heap[Nt]? = some (.cells #[.int .i64 k3, .int .i64 u3, .string m3, .string t3, .slice x3 y3 z3, .slice x4 y4 z4, .int .i64 f3, .bool cl3, .bool co3] 28 (0, 0)) := by rw [hW8, hNt]; exact heap_alloc_new w7 _
  have hS8 : Below WS.heap.size WS W8 := H2.out.2.trans (hb8.mono H2.out.2.size)
  have hnS8 := (hS8.block Ns (blk_lt HS.out.2)).trans HS.out.2
  have h68 : Below w6.heap.size w6 W8 := HS.out.1.trans (hS8.mono HS.out.1.size)
  have h58 : Below w5.heap.size w5 W8 := H1.out.2.trans (h68.mono H1.out.2.size)
  obtain ⟨⟨xs0, hr1⟩, ⟨ys0, hr2⟩⟩ := H1.out.1.rows
  have hq1 := hr1.lt
  have hq2 := hr2.lt
  have hr1' := own_md hr1 (Md.ofBelow (F := fun _ => False) h68) (fun _ _ h => h)
  have hr2' := own_md hr2 (Md.ofBelow (F := fun _ => False) h68) (fun _ _ h => h)
  have hn1 := fun j hj => own_ne hr1' hnS8 (by decide) j hj
  have hn2 := fun j hj => own_ne hr2' hnS8 (by decide) j hj
  have hn3 := fun j hj => own_ne hr1' hnT (by decide) j hj
  have hn4 := fun j hj => own_ne hr2' hnT (by decide) j hj
  have h12 := own_own hr1' hr2' (by decide)
  have hy1 : y1 ≤ 9223372036854775807 := by have := row_len hr1; unfold maxLen at this; omega
  have hy2 : y2 ≤ 9223372036854775807 := by have := row_len hr2; unfold maxLen at this; omega
  have HQ := (show Hid _ from And.intro hq1 (And.intro hq2 (And.intro hn1 (And.intro hn2 (And.intro h12 (And.intro hn3 hn4))))))
  have H8 := (show Hid _ from And.intro hnT (And.intro hnS8 (And.intro h58 (And.intro hS8 hb8))))
  have HR := (show Hid _ from And.intro hr1' hr2')
  clear hW8 hNt hb8 hnT hS8 hnS8 h68 h58 hr1 hr2 hq1 hq2 hr1' hr2' hn1 hn2 hn3 hn4 h12
  go_wp2
  go_loopw [6] (fun i wr => ∃ (k : Nat) (xs : List Value), k ≤ y1 ∧ i = .int .i64 k ∧ wr.ownsRow w5.heap.size 31 2 (.slice x1 y1 z1) y1 xs ∧ Md (fun b => (Value.slice x1 y1 z1).ownBlock = some b) W8 wr) (fun i _ => y1 - (intOf i).toNat)
  case atStart => exact ⟨0, _, Nat.zero_le _, rfl, HR.out.1, Md.refl _ _⟩
  case round =>
    obtain ⟨k, xs, hk, rfl, hown, hmd⟩ := hrel
    have hnr := keep_blk H8.out.2.1 hmd (fun h => HQ.out.2.2.1 Ns h rfl)
    have c4 := cell_blk hnr 4
    simp at c4
    by_cases hlt : k < y1
    · have hxl := hown.1
      obtain ⟨gh, rfl, hg1, hg2⟩ := row_some hown (by omega)
      have e0 : wr.cell? ⟨gh, k * 2, none⟩ = some (xs[k * 2]'(by omega)) := by rw [hown.cellAt (k * 2) (by omega), List.getElem?_eq_getElem]
      have e1 : wr.cell? ⟨gh, k * 2 + 1, none⟩ = some (xs[k * 2 + 1]'(by omega)) := by rw [hown.cellAt (k * 2 + 1) (by omega), List.getElem?_eq_getElem]
      have f0 := hown.frozenAt (k * 2)
      have f1 := hown.frozenAt (k * 2 + 1)
      have hst1 := (hown.stored (k * 2) (.string ⟨#[122]⟩)).1.stored (k * 2 + 1) (.string ⟨#[]⟩)
      have hmd2 : Md (fun b => (Value.slice (some ⟨gh, 0, none⟩) y1 z1).ownBlock = some b) W8 ((wr.setCell ⟨gh, k * 2, none⟩ (.string ⟨#[122]⟩)).setCell ⟨gh, k * 2 + 1, none⟩ (.string ⟨#[]⟩)) := (hmd.set (.inl rfl) _ _).set (.inl rfl) _ _
      have HST := (show Hid _ from And.intro hst1.1 hmd2)
      have hgN : Ns ≠ gh := fun h => HQ.out.2.2.1 gh rfl h.symm
      have hki : (k : Int) < (y1 : Int) := by omega
      have hk0 : (0 : Int) ≤ (k : Int) := by omega
      obtain ⟨q0, hq0⟩ : ∃ q0, wr.cell? ⟨gh, k * 2, none⟩ = some q0 := ⟨_, e0⟩
      obtain ⟨q1, hq1⟩ : ∃ q1, wr.cell? ⟨gh, k * 2 + 1, none⟩ = some q1 := ⟨_, e1⟩
      clear e0 e1 hown hmd hst1 hmd2 hnr hxl
      go_wp2
      go_roundw
      case rel => exact ⟨k + 1, _, by omega, by go_num, HST.out.1, HST.out.2⟩
      case measure => simp [intOf]; omega
    · have hki : ¬ ((k : Int) < (y1 : Int)) := by omega
      have HM1 := (show Hid _ from hmd)
      obtain ⟨w9, e9⟩ : ∃ x, x = wr := ⟨_, rfl⟩
      subst e9
      have hr9 := own_md HR.out.2 hmd (fun j hj h => HQ.out.2.2.2.2.1 j h hj)
      have HR9 := (show Hid _ from hr9)
      clear hown hmd hnr hr9
      go_wp2
      go_loopw [7] (fun i wr => ∃ (k : Nat) (xs : List Value), k ≤ y2 ∧ i = .int .i64 k ∧ wr.ownsRow w5.heap.size 5 1 (.slice x2 y2 z2) y2 xs ∧ Md (fun b => (Value.slice x2 y2 z2).ownBlock = some b) w9 wr) (fun i _ => y2 - (intOf i).toNat)
      case atStart => exact ⟨0, _, Nat.zero_le _, rfl, HR9.out, Md.refl _ _⟩
      case round =>
        obtain ⟨k2, xs2, hk2, rfl, hown, hmd⟩ := hrel
        have hnr := keep_blk (keep_blk H8.out.2.1 HM1.out (fun h => HQ.out.2.2.1 Ns h rfl)) hmd (fun h => HQ.out.2.2.2.1 Ns h rfl)
        have c5 := cell_blk hnr 5
        simp at c5
        by_cases hlt2 : k2 < y2
        · have hxl := hown.1
          obtain ⟨gb, rfl, hg1, hg2⟩ := row_some hown (by omega)
          obtain ⟨q0, hq0⟩ : ∃ q0, wr.cell? ⟨gb, k2, none⟩ = some q0 := ⟨_, by rw [hown.cellAt k2 (by omega), List.getElem?_eq_getElem (by omega)]⟩
          have f0 := hown.frozenAt k2
          have HST := (show Hid _ from And.intro (hown.stored k2 (.int .u8 1)).1 (hmd.set (p := gb) (.inl rfl) k2 (.int .u8 1)))
          have hgN : Ns ≠ gb := fun h => HQ.out.2.2.2.1 gb rfl h.symm
          have hki2 : (k2 : Int) < (y2 : Int) := by omega
          have hk02 : (0 : Int) ≤ (k2 : Int) := by omega
          clear hown hmd hnr hxl
          go_wp2
          go_roundw
          case rel => exact ⟨k2 + 1, _, by omega, by go_num, HST.out.1, HST.out.2⟩
          case measure => simp [intOf]; omega
        · have hki2 : ¬ ((k2 : Int) < (y2 : Int)) := by omega
          obtain ⟨wA, eA⟩ : ∃ x, x = wr := ⟨_, rfl⟩
          subst eA
          have hg1 : ∀ j, (Value.slice x1 y1 z1).ownBlock = some j → j ≠ g ∧ j < WS.heap.size ∧ w.heap.size ≤ j := fun j h => by
            have q1 := HQ.out.1 j h
            have q2 := H5.out.2.2.2
            have q3 := HS.out.1.size
            have q4 := H5.out.2.1.size
            exact ⟨by omega, by omega, by omega⟩
          have hg2 : ∀ j, (Value.slice x2 y2 z2).ownBlock = some j → j ≠ g ∧ j < WS.heap.size ∧ w.heap.size ≤ j := fun j h => by
            have q1 := HQ.out.2.1 j h
            have q2 := H5.out.2.2.2
            have q3 := HS.out.1.size
            have q4 := H5.out.2.1.size
            exact ⟨by omega, by omega, by omega⟩
          have ho8 := own_md H5.out.1 (Md.ofBelow (F := fun _ => False) H8.out.2.2.1) (fun _ _ h => h)
          have hgT := own_ne ho8 H8.out.1 (by decide)
          have hoA := own_md (own_md ho8 HM1.out (fun j hj h => by have := (hg1 j h).1; simp [Value.ownBlock] at hj; omega)) hmd (fun j hj h => by have := (hg2 j h).1; simp [Value.ownBlock] at hj; omega)
          have hTA := ((H2.out.1.md (Md.ofBelow (F := fun _ => False) H8.out.2.2.2.2) (fun _ _ h => h)).md HM1.out (fun j hj h => by have := (hg1 j h).2.1; omega)).md hmd (fun j hj h => by have := (hg2 j h).2.1; omega)
          have hNA := keep_blk (keep_blk H8.out.1 HM1.out (fun h => HQ.out.2.2.2.2.2.1 Nt h rfl)) hmd (fun h => HQ.out.2.2.2.2.2.2 Nt h rfl)
          have hbA : Below w.heap.size w wA := Md.toBelow (Md.toBelow (H5.out.2.1.trans (H8.out.2.2.1.mono H5.out.2.1.size)) HM1.out (fun b hb h => by have := (hg1 b h).2.2; omega) (Nat.le_refl _)) hmd (fun b hb h => by have := (hg2 b h).2.2; omega) (Nat.le_refl _)
          have hBA := HW0.out.1.below hbA (Nat.le_refl _)
          obtain ⟨X, hX⟩ : ∃ X : ByteArray, X = ⟨l.toArray⟩ := ⟨_, rfl⟩
          have hcv1 : ∀ m', (convert 22 9 (.slice (some ⟨g, 0, none⟩) l.length co)).run Tryz.prog (wA.drewN m') = .ok (.string X) (wA.drewN m') := fun m' => by
            rw [hX]; exact convert_bytes (wA.drewN m') (some ⟨g, 0, none⟩) co l (prefix_bytes rfl hoA)
          have hcv2 : ∀ m', (convert 22 9 (.slice a l.length cap)).run Tryz.prog (wA.drewN m') = .ok (.string X) (wA.drewN m') := fun m' => by
            rw [hX]; exact convert_bytes (wA.drewN m') a cap l hBA
          have hXX : (X.toList == X.toList) = true := by simp
          clear hX
          have c77 : wA.cell? ⟨g, l.length, none⟩ = some (.int .u8 77) := by
            rw [hoA.cellAt l.length (by omega), List.getElem?_append_right (by rw [bcs_length]; exact Nat.le_refl _), bcs_length, Nat.sub_self]
            rfl
          have HA := (show Hid _ from And.intro hoA (And.intro hTA (And.intro hNA (And.intro hbA (hgT g rfl)))))
          have h77a : (l.length : Int) < (l.length : Int) + 1 := by omega
          have h77b : (0 : Int) ≤ (l.length : Int) := by omega
          clear hown hmd hnr ho8 hBA hoA hTA hNA hbA hg1 hg2 hgT
          go_wp2
          go_quiet (fail)
          go_wp2
          go_loopw [8] (fun i wr => ∃ (k : Nat) (xs : List Value), k ≤ l.length ∧ i = .int .i64 k ∧ wr.ownsRow w.heap.size 5 1 (.slice (some ⟨g, 0, none⟩) (l.length + 1) co) (l.length + 1) xs ∧ Md (· = g) wA wr) (fun i _ => l.length - (intOf i).toNat)
          case atStart => exact ⟨0, _, Nat.zero_le _, rfl, HA.out.1, ⟨rfl, rfl, rfl, Nat.le_refl _, fun _ _ _ => rfl⟩⟩
          case round =>
            obtain ⟨k3', xs3, hk3, rfl, hown, hmd⟩ := hrel
            by_cases hlt3 : k3' < l.length
            · have hxl := hown.1
              obtain ⟨q0, hq0⟩ : ∃ q0, wr.cell? ⟨g, k3', none⟩ = some q0 := ⟨_, by rw [hown.cellAt k3' (by omega), List.getElem?_eq_getElem (by omega)]⟩
              have f0 := hown.frozenAt k3'
              have HST := (show Hid _ from And.intro (hown.stored k3' (.int .u8 0)).1 (hmd.set (p := g) (.inl rfl) k3' (.int .u8 0)))
              have hki3 : (k3' : Int) < (l.length : Int) := by omega
              have hki4 : (k3' : Int) < (l.length : Int) + 1 := by omega
              have hk03 : (0 : Int) ≤ (k3' : Int) := by omega
              clear hown hmd hxl
              go_wp2
              go_roundw
              case rel => exact ⟨k3' + 1, _, by omega, by go_num, HST.out.1, HST.out.2⟩
              case measure => simp [intOf]; omega
            · have hki3 : ¬ ((k3' : Int) < (l.length : Int)) := by omega
              have hgW : g < WS.heap.size := by
                have q2 := H5.out.2.2.2
                have q3 := HS.out.1.size
                have q4 := H1.out.2.size
                omega
              have hTB := (HA.out.2.1.md hmd (fun j hj h => by omega)).tb
              have hNB := keep_blk HA.out.2.2.1 hmd (fun h => HA.out.2.2.2.2 h.symm)
              have hbB : Below w.heap.size w wr := Md.toBelow HA.out.2.2.2.1 hmd (fun b hb h => by have := H5.out.2.2.1; omega) (Nat.le_refl _)
              have hR := fun W (hW : Below wr.heap.size wr W) => parseR_any a l cap W ((HW0.out.1.below hbB (Nat.le_refl _)).below hW (Nat.le_refl _)) (by omega)
              have hLn : ∀ u m t hs b cl co, parseL l = .done u m t hs b cl co → hs.length ≤ 1000000000 := fun u m t hs b cl co h => by have := parse_room h; omega
              have HX := (show Hid (Calls Tryz.prog 8 #[.slice a l.length cap] wr.drew fun e w8 => ∃ T : Tl, e = .returned T.v ∧ (w8.cell? ⟨Nt, 0, none⟩ = some (.int .i64 k3) ∧ w8.cell? ⟨Nt, 1, none⟩ = some (.int .i64 u3) ∧ w8.cell? ⟨Nt, 2, none⟩ = some (.string m3) ∧ w8.cell? ⟨Nt, 3, none⟩ = some (.string t3) ∧ w8.cell? ⟨Nt, 4, none⟩ = some (.slice x3 y3 z3) ∧ w8.cell? ⟨Nt, 5, none⟩ = some (.slice x4 y4 z4) ∧ w8.cell? ⟨Nt, 6, none⟩ = some (.int .i64 f3) ∧ w8.cell? ⟨Nt, 7, none⟩ = some (.bool cl3) ∧ w8.cell? ⟨Nt, 8, none⟩ = some (.bool co3)) ∧ Hid (Calls Tryz.prog 7 #[.agg #[.int .i64 k3, .int .i64 u3, .string m3, .string t3, .slice x3 y3 z3, .slice x4 y4 z4, .int .i64 f3, .bool cl3, .bool co3], T.v] w8 fun e w9 => e = .returned (.bool true) ∧ (w9.cell? ⟨Nt, 0, none⟩ = some (.int .i64 k3) ∧ w9.cell? ⟨Nt, 1, none⟩ = some (.int .i64 u3) ∧ w9.cell? ⟨Nt, 2, none⟩ = some (.string m3) ∧ w9.cell? ⟨Nt, 3, none⟩ = some (.string t3) ∧ w9.cell? ⟨Nt, 4, none⟩ = some (.slice x3 y3 z3) ∧ w9.cell? ⟨Nt, 5, none⟩ = some (.slice x4 y4 z4) ∧ w9.cell? ⟨Nt, 6, none⟩ = some (.int .i64 f3) ∧ w9.cell? ⟨Nt, 7, none⟩ = some (.bool cl3) ∧ w9.cell? ⟨Nt, 8, none⟩ = some (.bool co3)) ∧ Hid (Calls Tryz.prog 9 #[] w9 fun e w' => e = .returned (.bool true) ∧ (w'.cell? ⟨Nt, 0, none⟩ = some (.int .i64 k3) ∧ w'.cell? ⟨Nt, 1, none⟩ = some (.int .i64 u3) ∧ w'.cell? ⟨Nt, 2, none⟩ = some (.string m3) ∧ w'.cell? ⟨Nt, 3, none⟩ = some (.string t3) ∧ w'.cell? ⟨Nt, 4, none⟩ = some (.slice x3 y3 z3) ∧ w'.cell? ⟨Nt, 5, none⟩ = some (.slice x4 y4 z4) ∧ w'.cell? ⟨Nt, 6, none⟩ = some (.int .i64 f3) ∧ w'.cell? ⟨Nt, 7, none⟩ = some (.bool cl3) ∧ w'.cell? ⟨Nt, 8, none⟩ = some (.bool co3)) ∧ Hid (Below w.heap.size w w')))) from by
                refine (hR wr.drew (Below.refl _ wr).drew).mono ?_
                rintro e w8 ⟨T, rfl, hT, hb8⟩
                have hb8' : Below wr.heap.size wr w8 := (Below.refl _ wr).drew.trans hb8
                have hN8 := (hb8'.block Nt (blk_lt hNB)).trans hNB
                refine ⟨T, rfl, nine_of hN8, ?_⟩
                refine (sameStep_any (hTB.below hb8') hT hLn).mono ?_
                rintro e w9 ⟨rfl, hb9⟩
                have hN9 := (hb9.block Nt (blk_lt hN8)).trans hN8
                have hb9' : Below w.heap.size w w9 := (hbB.trans (hb8'.mono hbB.size)).trans (hb9.mono (Nat.le_trans hbB.size hb8'.size))
                refine ⟨rfl, nine_of hN9, ?_⟩
                refine (awake_any w9 (HW0.out.2.1.below hb9' (Nat.le_refl _)) (HW0.out.2.2.below hb9' (Nat.le_refl _))).mono ?_
                rintro e w' ⟨rfl, hb10⟩
                exact ⟨rfl, nine_of ((hb10.block Nt (blk_lt hN9)).trans hN9), hb9'.trans (hb10.mono hb9'.size)⟩)
              obtain ⟨e0, e1, e2, e3, e4, e5, e6, e7, e8⟩ := nine_of hNB
              clear hown hmd hTB hNB hbB hR hLn
              go_wp2
              go_region_held3 (fun w' => w'.cell? ⟨Nt, 0, none⟩ = some (.int .i64 k3) ∧ w'.cell? ⟨Nt, 1, none⟩ = some (.int .i64 u3) ∧ w'.cell? ⟨Nt, 2, none⟩ = some (.string m3) ∧ w'.cell? ⟨Nt, 3, none⟩ = some (.string t3) ∧ w'.cell? ⟨Nt, 4, none⟩ = some (.slice x3 y3 z3) ∧ w'.cell? ⟨Nt, 5, none⟩ = some (.slice x4 y4 z4) ∧ w'.cell? ⟨Nt, 6, none⟩ = some (.int .i64 f3) ∧ w'.cell? ⟨Nt, 7, none⟩ = some (.bool cl3) ∧ w'.cell? ⟨Nt, 8, none⟩ = some (.bool co3)) (go_keep)
                (first
                  | (go_at_call 8; (with_reducible refine Calls.mono HX.out ?_); rintro e w8 ⟨T, rfl, ⟨m0, m1, m2, m3, m4, m5, m6, m7, m8⟩, HY⟩)
                  | (go_at_call 7; (with_reducible refine Calls.mono HY.out ?_); rintro e w9 ⟨rfl, ⟨n0, n1, n2, n3, n4, n5, n6, n7, n8⟩, HZ⟩)
                  | (go_at_call 9; (with_reducible refine Calls.mono HZ.out ?_); rintro e w10 ⟨rfl, ⟨o0, o1, o2, o3, o4, o5, o6, o7, o8⟩, HE⟩))
              go_wp2
              go_ret
              exact ⟨rfl, HE.out⟩
end Go.Proofs.YtmodmeabjhaklabGreatDoor
