/-
  http.Parse of any bytes: the walk.
-/
import Derived.Test.YtmodmeabjhaklaaGreatDoorPrs
import Derived.Test.YtmodmeabjhaklaaGreatDoorQry
import Derived.Lib.SmallJoins
namespace Go.Proofs.YtmodmeabjhaklaaGreatDoor
open Go.RowKit

/-- A state's method. -/
theorem step_any {w0 W wr : World} {p : Nat} {l : List UInt8} {q n : Nat} {s : St} {a : Option Addr} {cap : Nat} {T : Tl} {hv pv : Value} {xs : List Sl} (hb : Below p W wr) (h : Rd w0 wr p l s a cap T hv pv xs) (hq : q ≤ 6) (hw : Inw l q s) (hn : mu l q s ≤ n) (hr : runF l n q s = parseL l) :
    Calls Tryz.prog (22 + q) #[.pointer (some ⟨p, 0, none⟩)] wr fun e w' => ∃ v', e = .returned v' ∧ Lp w0 W p l a cap v' w' ∧ meas l p v' w' < meas l p (.int .i64 (q : Int)) wr := by
  have key : Calls Tryz.prog (22 + q) #[.pointer (some ⟨p, 0, none⟩)] wr fun e w' => NxR w0 wr w' p l a cap e (stepF l q s) := by
    have : q = 0 ∨ q = 1 ∨ q = 2 ∨ q = 3 ∨ q = 4 ∨ q = 5 ∨ q = 6 := by omega
    rcases this with rfl | rfl | rfl | rfl | rfl | rfl | rfl
    · exact requestLine_any h
    · exact header_any h
    · exact headEnd_any h
    · exact body_any h hw
    · exact chunkLine_any h
    · exact chunk_any h hw
    · refine trailer_any h (fun w1 s' T hv pv xs hp h1 => ?_)
      refine done_any h1 ?_
      rw [hp, hw.fl]
      have := h.inv.sum
      have := h.inv.at_
      have := h.inv.len
      omega
  exact key.mono fun e w' hx => lp_step hb h hq hw hn hr hx
theorem TlR.form {w : World} {base : Nat} {t : Tl} {T : Tld} (h : TlR w base t T) : (∃ x y z, t.h = .slice x y z) ∧ ∃ x y z, t.b = .slice x y z := by
  cases T with
  | more => rw [show t = moreT from h]; exact ⟨⟨_, _, _, rfl⟩, ⟨_, _, _, rfl⟩⟩
  | bad e => rw [show t = badT e from h]; exact ⟨⟨_, _, _, rfl⟩, ⟨_, _, _, rfl⟩⟩
  | done u m tt hs b cl co =>
    obtain ⟨hv, bv, rfl, h2, h3⟩ := h
    obtain ⟨a, c, h4⟩ := own_slice h2
    obtain ⟨a', c', h5⟩ := own_slice h3
    exact ⟨⟨_, _, _, h4⟩, ⟨_, _, _, h5⟩⟩
theorem TlR.fin {w w' : World} {base base' N : Nat} {t : Tl} {T : Tld} (h : TlR w base t T) (hm : Md (· = N) w w') (hN : N < base) (hb : base' ≤ base) : TlR w' base' t T := by
  cases T with
  | more => exact h
  | bad e => exact h
  | done u m tt hs b cl co =>
    obtain ⟨hv, bv, h1, h2, h3⟩ := h
    exact ⟨hv, bv, h1, own_le (own_md h2 hm (fun j hj => by have := (h2.lt j hj).1; omega)) hb, own_le (own_md h3 hm (fun j hj => by have := (h3.lt j hj).1; omega)) hb⟩
set_option maxRecDepth 20000 in
set_option maxHeartbeats 2000000 in
theorem parse_any (a : Option Addr) (l : List UInt8) (cap : Nat) (w : World) (hcap : l.length ≤ cap) (hB : Bytes w a l) (hab : ∀ x, a = some x → x.spot = none ∧ x.block < w.heap.size) (han : a = none → cap = 0) (hl : l.length ≤ 1000000000) (hm : Mx w) (he : Er w) :
    Calls Tryz.prog 10 #[.slice a l.length cap] w fun e w' => ∃ T : Tl, e = .returned T.v ∧ TlR w' w.heap.size T (parseL l) ∧ Below w.heap.size w w' := by
  obtain ⟨N, hN⟩ : ∃ N, N = w.heap.size := ⟨_, rfl⟩
  obtain ⟨W1, hW1⟩ : ∃ W1, W1 = w.alloc (.cells #[.int .i64 0, .int .i64 0, .string ⟨#[]⟩, .string ⟨#[]⟩, .slice none 0 0, .slice none 0 0, .int .i64 0, .bool false, .bool false] 29) := ⟨_, rfl⟩
  obtain ⟨W, hW⟩ : ∃ W, W = W1.alloc (.cells #[.slice a l.length cap, .int .i64 0, .int .i64 0, .int .i64 0, .string ⟨#[]⟩, .string ⟨#[]⟩, .slice none 0 0, .slice none 0 0, .int .i64 0, .bool false, .bool false, .int .i64 0, .int .i64 0, .string ⟨#[]⟩, .string ⟨#[]⟩, .slice none 0 0, .slice none 0 0, .int .i64 0, .slice none 0 0, .int .i64 0] 54) := ⟨_, rfl⟩
  have hs1 : W1.heap.size = N + 1 := by rw [hW1, hN]; show (w.heap.push _).size = _; simp
  have hbW : Below w.heap.size w W := by rw [hW, hW1]; exact ((Below.refl _ _).alloc (Nat.le_refl _) _).alloc (by simp) _
  have hrb : Rb W (N + 1) (rsOf st0 (.slice a l.length cap) zeroT (.slice none 0 0) (.slice none 0 0)) := by rw [← hs1, hW]; exact heap_alloc_new W1 _
  have hnb : W.heap[N]? = some (.cells #[.int .i64 0, .int .i64 0, .string ⟨#[]⟩, .string ⟨#[]⟩, .slice none 0 0, .slice none 0 0, .int .i64 0, .bool false, .bool false] 29 (0, 0)) := by
    rw [hW]
    have h1 : W1.heap[N]? = some (.cells #[.int .i64 0, .int .i64 0, .string ⟨#[]⟩, .string ⟨#[]⟩, .slice none 0 0, .slice none 0 0, .int .i64 0, .bool false, .bool false] 29 (0, 0)) := by rw [hN, hW1]; exact heap_alloc_new w _
    exact (Below.heap_alloc W1 _ N (by omega)).trans h1
  have hRd : Rd w W (N + 1) l st0 a cap zeroT (.slice none 0 0) (.slice none 0 0) [] := ⟨hrb, han, hcap, hB, hab, by omega, hbW, World.ownsRow_nil _ _ _ _, World.ownsRow_nil _ _ _ _, rfl, (fun x hx => by cases hx), hm, he, ⟨Nat.zero_le _, hl, Nat.le_refl _, Nat.le_refl _, Nat.le_refl _, Nat.le_refl _, Nat.le_refl _, Nat.zero_le _, (fun x hx => by cases hx)⟩⟩
  have HL0 : Hid (Lp w W (N + 1) l a cap (.int .i64 0) W) := ⟨Below.refl _ _, .inr ⟨0, st0, 2 * l.length + 6, zeroT, _, _, [], rfl, by omega, hRd, ⟨rfl, fun h => absurd rfl h, fun _ => rfl, fun h => by omega⟩, by simp only [mu, st0]; omega, rfl⟩⟩
  have HNB := (show Hid _ from And.intro hnb hbW)
  have HN : Hid (N = w.heap.size) := hN
  clear hRd hrb hnb hB hab han hm he hcap hbW
  go_enter Tryz.func10, Tryz.ntmps10
  go_wp2
  refine wp_scope_straight ?_
  go_wp2
  refine wp_label ?_
  rw [← hN, ← hW1, ← hW]
  clear hN hW1 hW hs1
  obtain ⟨p, hp⟩ : ∃ p, p = N + 1 := ⟨_, rfl⟩
  rw [← hp] at HL0 ⊢
  have HP : Hid (p = N + 1) := hp
  clear hp
  go_wp2
  go_loopw [4] (fun v wr => Lp w W p l a cap v wr) (fun v wr => meas l p v wr)
  case atStart => exact HL0.out
  case round =>
    obtain ⟨hb, ⟨rfl, hf⟩ | ⟨q, s, n, T, hv, pv, xs, rfl, hq, hr, hw, hn, hrun⟩⟩ := hrel
    · obtain ⟨r, hr, ht, hbl⟩ := hf
      have hnr : wr.heap[N]? = some (.cells #[.int .i64 0, .int .i64 0, .string ⟨#[]⟩, .string ⟨#[]⟩, .slice none 0 0, .slice none 0 0, .int .i64 0, .bool false, .bool false] 29 (0, 0)) := (hb.block N (by have := HP.out; omega)).trans HNB.out.1
      have HF := (show Hid _ from And.intro ht hbl)
      have c2 : wr.cell? ⟨p, 2, none⟩ = some (.int .i64 r.told.kind) := hr.cell 2 rfl
      have c3 : wr.cell? ⟨p, 3, none⟩ = some (.int .i64 r.told.used) := hr.cell 3 rfl
      have c4 : wr.cell? ⟨p, 4, none⟩ = some (.string r.told.m) := hr.cell 4 rfl
      have c5 : wr.cell? ⟨p, 5, none⟩ = some (.string r.told.t) := hr.cell 5 rfl
      have c6 : wr.cell? ⟨p, 6, none⟩ = some r.told.h := hr.cell 6 rfl
      have c7 : wr.cell? ⟨p, 7, none⟩ = some r.told.b := hr.cell 7 rfl
      obtain ⟨⟨x1, y1, z1, hth⟩, ⟨x2, y2, z2, htb⟩⟩ := ht.form
      rw [hth] at c6
      rw [htb] at c7
      have HTV : Hid (r.told.v = .agg #[.int .i64 r.told.kind, .int .i64 r.told.used, .string r.told.m, .string r.told.t, .slice x1 y1 z1, .slice x2 y2 z2, .int .i64 r.told.fault, .bool r.told.cl, .bool r.told.co]) := by show _ = _; rw [Tl.v, hth, htb]
      clear hth htb
      have c8 : wr.cell? ⟨p, 8, none⟩ = some (.int .i64 r.told.fault) := hr.cell 8 rfl
      have c9 : wr.cell? ⟨p, 9, none⟩ = some (.bool r.told.cl) := hr.cell 9 rfl
      have c10 : wr.cell? ⟨p, 10, none⟩ = some (.bool r.told.co) := hr.cell 10 rfl
      have d0 := cell_blk hnr 0
      have d1 := cell_blk hnr 1
      have d2 := cell_blk hnr 2
      have d3 := cell_blk hnr 3
      have d4 := cell_blk hnr 4
      have d5 := cell_blk hnr 5
      have d6 := cell_blk hnr 6
      have d7 := cell_blk hnr 7
      have d8 := cell_blk hnr 8
      have g0 := frozen_blk hnr 0
      have g1 := frozen_blk hnr 1
      have g2 := frozen_blk hnr 2
      have g3 := frozen_blk hnr 3
      have g4 := frozen_blk hnr 4
      have g5 := frozen_blk hnr 5
      have g6 := frozen_blk hnr 6
      have g7 := frozen_blk hnr 7
      have g8 := frozen_blk hnr 8
      simp at d0 d1 d2 d3 d4 d5 d6 d7 d8
      clear hr hnr ht hbl hb
      go_wp2
      simp (config := { zetaDelta := true }) only [Exit.noGoto]
      refine bodyPost_ret (v := .agg #[.int .i64 r.told.kind, .int .i64 r.told.used, .string r.told.m, .string r.told.t, .slice x1 y1 z1, .slice x2 y2 z2, .int .i64 r.told.fault, .bool r.told.cl, .bool r.told.co]) (by simp [results, Tryz.results10, go_sem, d0, d1, d2, d3, d4, d5, d6, d7, d8]) rfl ?_
      have hmN : Md (· = N) wr (((((((((wr.setCell ⟨N, 0, none⟩ (.int .i64 r.told.kind)).setCell ⟨N, 1, none⟩ (.int .i64 r.told.used)).setCell ⟨N, 2, none⟩ (.string r.told.m)).setCell ⟨N, 3, none⟩ (.string r.told.t)).setCell ⟨N, 4, none⟩ (.slice x1 y1 z1)).setCell ⟨N, 5, none⟩ (.slice x2 y2 z2)).setCell ⟨N, 6, none⟩ (.int .i64 r.told.fault)).setCell ⟨N, 7, none⟩ (.bool r.told.cl)).setCell ⟨N, 8, none⟩ (.bool r.told.co)) := by
        iterate 9 refine Md.setp ?_ _ _
        exact Md.refl _ _
      refine ⟨r.told, by rw [HTV.out], HF.out.1.fin hmN (by have := HP.out; omega) (by have := HP.out; have := HN.out; omega), ?_⟩
      have hb0 := HF.out.2
      exact ⟨hmN.os.trans hb0.os, hmN.tape.trans hb0.tape, hmN.output.trans hb0.output, Nat.le_trans hb0.size hmN.size, fun b hlt => (hmN.block b (by have := hb0.size; omega) (by have := HN.out; omega)).trans (hb0.block b hlt)⟩
    · have K := (show Hid _ from step_any hb hr hq hw hn hrun)
      clear hb hr hw hn hrun
      have hq7 : q = 0 ∨ q = 1 ∨ q = 2 ∨ q = 3 ∨ q = 4 ∨ q = 5 ∨ q = 6 := by omega
      clear hq
      rcases hq7 with rfl | rfl | rfl | rfl | rfl | rfl | rfl
      all_goals
        go_wp2_with fail
        refine Calls.mono K.out ?_
        rintro e w' ⟨v', rfl, hlp, hms⟩
        have HLP := (show Hid _ from And.intro hlp hms)
        clear hlp hms K
        go_wp2
        go_roundw
        case rel => exact HLP.out.1
        case measure => exact HLP.out.2
end Go.Proofs.YtmodmeabjhaklaaGreatDoor
