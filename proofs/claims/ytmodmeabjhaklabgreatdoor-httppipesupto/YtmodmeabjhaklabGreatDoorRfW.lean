/-
  The document's Parse: the walk.
-/
import Derived.Test.YtmodmeabjhaklabGreatDoorRfX
import Derived.Deep.Cut
import Derived.Deep.CutRange
import Derived.Deep.RegionWith
namespace Go.Proofs.YtmodmeabjhaklabGreatDoor
open Go.RowKit

/-- What the document's Parse is told as. -/
def TbR (w : World) (base : Nat) (t : Tl) : Tld → Prop
  | .more => t = moreT
  | .bad e => t = badT e
  | .done u m tt hs b cl co => ∃ a1 c1 a2 c2, t = ⟨2, (u : Int), ⟨m.toArray⟩, ⟨tt.toArray⟩, .slice a1 hs.length c1, .slice a2 b.length c2, 0, cl, co⟩ ∧ Hdrs w a1 hs ∧ Bytes w a2 b ∧ (∀ x, a1 = some x → base ≤ x.block) ∧ ∀ x, a2 = some x → base ≤ x.block
theorem TbR.form {w : World} {base : Nat} {t : Tl} {T : Tld} (h : TbR w base t T) : (∃ x y z, t.h = .slice x y z) ∧ ∃ x y z, t.b = .slice x y z := by
  cases T with
  | more => rw [show t = moreT from h]; exact ⟨⟨_, _, _, rfl⟩, ⟨_, _, _, rfl⟩⟩
  | bad e => rw [show t = badT e from h]; exact ⟨⟨_, _, _, rfl⟩, ⟨_, _, _, rfl⟩⟩
  | done u m tt hs b cl co =>
    obtain ⟨a1, c1, a2, c2, rfl, -⟩ := h
    exact ⟨⟨_, _, _, rfl⟩, ⟨_, _, _, rfl⟩⟩
theorem Hdrs.md {F : Nat → Prop} {w w' : World} {a : Option Addr} {hs : List Hd} (h : Hdrs w a hs) (hm : Md F w w') (hF : ∀ b off, a = some ⟨b, off, none⟩ → ¬ F b) : Hdrs w' a hs := by
  rcases h with h | ⟨b, off, h1, h2, h3⟩
  · exact .inl h
  · refine .inr ⟨b, off, h1, Nat.lt_of_lt_of_le h2 hm.size, fun j hj => ?_⟩
    have hb := hm.block b h2 (hF b off h1)
    exact ⟨(World.cell?_of_block (w := w) (a := ⟨b, off + j * 2, none⟩) hb).trans (h3 j hj).1, (World.cell?_of_block (w := w) (a := ⟨b, off + j * 2 + 1, none⟩) hb).trans (h3 j hj).2⟩
theorem TbR.fin {w w' : World} {base base' N : Nat} {t : Tl} {T : Tld} (h : TbR w base t T) (hm : Md (· = N) w w') (hN : N < base) (hb : base' ≤ base) : TbR w' base' t T := by
  cases T with
  | more => exact h
  | bad e => exact h
  | done u m tt hs b cl co =>
    obtain ⟨a1, c1, a2, c2, h1, h2, h3, h4, h5⟩ := h
    exact ⟨a1, c1, a2, c2, h1, h2.md hm (fun b off e => by have := h4 _ e; simp only at this; omega), h3.md hm (fun b off e => by have := h5 _ e; simp only at this; omega), fun x hx => Nat.le_trans hb (h4 x hx), fun x hx => Nat.le_trans hb (h5 x hx)⟩
theorem fail_told' {w : World} {base : Nat} {T : Tld} (h : Fail T) : TbR w base (if tC T = 0 then moreT else badT (tC T)) T := by
  rcases h with rfl | ⟨x, hx, rfl⟩
  · rfl
  · show TbR w base (if x = 0 then moreT else badT x) (.bad x)
    rw [if_neg hx]
    rfl
theorem own_blk {w : World} {base : Nat} {e : TypeId} {size : Nat} {a : Option Addr} {n c n' : Nat} {xs : List Value} (h : w.ownsRow base e size (.slice a n c) n' xs) : ∀ x, a = some x → base ≤ x.block := by
  intro x hx
  subst hx
  exact (h.lt x.block rfl).1
/-- What Parse stands on while it goes: the result's block, what was there before. -/
structure Pw (w : World) (N p : Nat) (W : World) : Prop where
  nb : W.heap[N]? = some (.cells #[.int .i64 0, .int .i64 0, .string ⟨#[]⟩, .string ⟨#[]⟩, .slice none 0 0, .slice none 0 0, .int .i64 0, .bool false, .bool false] 34 (0, 0))
  md : Md (· = p) w W
theorem Pw.md' {w W W' : World} {N p : Nat} (h : Pw w N p W) (hm : Md (· = p) W W') (hp : N ≠ p) : Pw w N p W' := ⟨keep_blk h.nb hm hp, h.md.trans hm⟩
theorem Pw.below {w W W' : World} {N p : Nat} (h : Pw w N p W) (hb : Below W.heap.size W W') : Pw w N p W' := ⟨(hb.block N (blk_lt h.nb)).trans h.nb, h.md.below hb⟩
theorem Tl.ex (T : Tl) (h : (∃ x y z, T.h = .slice x y z) ∧ ∃ x y z, T.b = .slice x y z) : ∃ k u m t x1 y1 z1 x2 y2 z2 f a b, T = ⟨k, u, m, t, .slice x1 y1 z1, .slice x2 y2 z2, f, a, b⟩ := by
  obtain ⟨k, u, m, t, th, tb, f, a, b⟩ := T
  obtain ⟨⟨x1, y1, z1, h1⟩, ⟨x2, y2, z2, h2⟩⟩ := h
  dsimp only at h1 h2
  subst h1 h2
  exact ⟨_, _, _, _, _, _, _, _, _, _, _, _, _, rfl⟩
theorem DF.below {w w' : World} {p : Nat} {l : List UInt8} {x : Int} (h : DF w p l x) (hb : Below w.heap.size w w') : DF w' p l x := by
  obtain ⟨k, h1, n, m, hd⟩ := h
  exact ⟨k, h1, n, m, hd.below hb⟩
theorem left_told {w W : World} {N p : Nat} {l : List UInt8} {T : Tld} (B : Nat) (hpw : Pw w N p W) (hdf : DF W p l (tC T)) (hT : Fail T) :
    Calls Tryz.prog 20 #[.pointer (some ⟨p, 0, none⟩)] W fun e w' => ∃ T9 : Tl, e = .returned T9.v ∧ Pw w N p w' ∧ TbR w' B T9 T := by
  refine (leftR_any p l (tC T) W hdf).mono ?_
  rintro e w' ⟨h1, h2⟩
  exact ⟨_, h1, hpw.below h2, fail_told' hT⟩
theorem set9 {w W : World} {N p : Nat} {T : Tl} {P : Tld} {v0 v1 v2 v3 v4 v5 v6 v7 v8 : Value} (h : Pw w N p W) (hN : w.heap.size = N) (hp : w.heap.size < p) (hT : TbR W (w.heap.size + 1) T P) :
    TbR (((((((((W.setCell ⟨N, 0, none⟩ v0).setCell ⟨N, 1, none⟩ v1).setCell ⟨N, 2, none⟩ v2).setCell ⟨N, 3, none⟩ v3).setCell ⟨N, 4, none⟩ v4).setCell ⟨N, 5, none⟩ v5).setCell ⟨N, 6, none⟩ v6).setCell ⟨N, 7, none⟩ v7).setCell ⟨N, 8, none⟩ v8) w.heap.size T P ∧ Below w.heap.size w (((((((((W.setCell ⟨N, 0, none⟩ v0).setCell ⟨N, 1, none⟩ v1).setCell ⟨N, 2, none⟩ v2).setCell ⟨N, 3, none⟩ v3).setCell ⟨N, 4, none⟩ v4).setCell ⟨N, 5, none⟩ v5).setCell ⟨N, 6, none⟩ v6).setCell ⟨N, 7, none⟩ v7).setCell ⟨N, 8, none⟩ v8) := by
  have hm : Md (· = N) W (((((((((W.setCell ⟨N, 0, none⟩ v0).setCell ⟨N, 1, none⟩ v1).setCell ⟨N, 2, none⟩ v2).setCell ⟨N, 3, none⟩ v3).setCell ⟨N, 4, none⟩ v4).setCell ⟨N, 5, none⟩ v5).setCell ⟨N, 6, none⟩ v6).setCell ⟨N, 7, none⟩ v7).setCell ⟨N, 8, none⟩ v8) := by
    iterate 9 refine Md.setp ?_ _ _
    exact Md.refl _ _
  refine ⟨hT.fin hm (by omega) (by omega), ?_⟩
  have h1 : Below w.heap.size w W := ⟨h.md.os, h.md.tape, h.md.output, h.md.size, fun b hb => h.md.block b hb (by omega)⟩
  exact Md.toBelow h1 hm (fun b hb => by omega) (Nat.le_refl _)
theorem Pw.setM {w W : World} {N p M : Nat} (h : Pw w N p W) (hM : w.heap.size ≤ M) (hMN : M ≠ N) (j : Nat) (v : Value) : Pw w N p (W.setCell ⟨M, j, none⟩ v) := ⟨keep_blk (F := (· = M)) h.nb ((Md.refl _ _).setp _ _) (fun e => hMN e.symm), h.md.set (.inr hM) _ _⟩
theorem cellN9 {W : World} {N b j : Nat} {v : Value} (v0 v1 v2 v3 v4 v5 v6 v7 v8 : Value) (h : W.cell? ⟨b, j, none⟩ = some v) (hne : b ≠ N) : (((((((((W.setCell ⟨N, 0, none⟩ v0).setCell ⟨N, 1, none⟩ v1).setCell ⟨N, 2, none⟩ v2).setCell ⟨N, 3, none⟩ v3).setCell ⟨N, 4, none⟩ v4).setCell ⟨N, 5, none⟩ v5).setCell ⟨N, 6, none⟩ v6).setCell ⟨N, 7, none⟩ v7).setCell ⟨N, 8, none⟩ v8).cell? ⟨b, j, none⟩ = some v := by
  have e : ∀ (W : World) (k : Nat) (u : Value), (W.setCell ⟨N, k, none⟩ u).cell? ⟨b, j, none⟩ = W.cell? ⟨b, j, none⟩ := fun W k u => World.cell?_of_block (w := W) (a := ⟨b, j, none⟩) (Below.heap_setCell _ _ _ _ hne)
  rw [e, e, e, e, e, e, e, e, e]
  exact h
theorem cellM {W : World} {M p i j : Nat} {u v : Value} (h : W.cell? ⟨p, i, none⟩ = some v) (hne : M ≠ p) : (W.setCell ⟨M, j, none⟩ u).cell? ⟨p, i, none⟩ = some v := (World.cell?_of_block (w := W) (a := ⟨p, i, none⟩) (Below.heap_setCell _ _ _ _ (fun e => hne e.symm))).trans h
theorem step_conv {w : World} {o : Oper} {a : Act} {K : Act → World → Prop} {Q : Exit → Act → World → Prop} (x : Operand) (ho : o.op = .convert 9 22 x) (s : List UInt8) (hx : a.eval x = .string ⟨s.toArray⟩)
    (h : ∀ g cap W1, g = w.heap.size → Bytes W1 (some ⟨g, 0, none⟩) s → Below w.heap.size w W1 → w.heap.size < W1.heap.size → K (a.put o.dst (.slice (some ⟨g, 0, none⟩) s.length cap)) W1) : Oper.wp Tryz.prog o a w K Q := by
  obtain ⟨W1, cap, hr, hc, -, hb, hlt⟩ := lower_conv ⟨s.toArray⟩ w
  have hz : (⟨s.toArray⟩ : ByteArray).size = s.length := mk_size s
  unfold Oper.wp execOp
  simp only [ho, Sem.run_bind, Sem.run_pure, Result.andThen_ok, hx, hr, hz]
  exact h _ cap W1 rfl (.inr ⟨w.heap.size, 0, rfl, hlt, fun j hj => by rw [Nat.zero_add]; exact hc j (by rw [hz]; exact hj)⟩) hb hlt
theorem DF.setM {w : World} {p M : Nat} {l : List UInt8} {x : Int} (h : DF w p l x) (hM : M ≠ p) (j : Nat) (v : Value) : DF (w.setCell ⟨M, j, none⟩ v) p l x := by
  obtain ⟨k, h1, n, m, hd⟩ := h
  exact ⟨k, h1, n, m, keep_blk (F := (· = M)) hd ((Md.refl _ _).setp _ _) (fun e => hM e.symm)⟩
/-- All that the last statement stands on. -/
structure Pz (w : World) (N p M : Nat) (l m t : List UInt8) (acc : List Hd) (b : List UInt8) (a1 : Option Addr) (c1 : Nat) (a2 : Option Addr) (c2 u : Nat) (W : World) : Prop where
  pw : Pw w N p W
  nm : W.heap[M]? = some (.cells #[.string ⟨m.toArray⟩, .string ⟨t.toArray⟩, .slice a1 acc.length c1, .slice a2 b.length c2] 25 (0, 0))
  dr : ∃ h n, Dr W p l u h n false 0
  hs : Hdrs W a1 acc
  hb : ∀ x, a1 = some x → w.heap.size + 1 ≤ x.block
  bs : Bytes W a2 b
  bb : ∀ x, a2 = some x → w.heap.size + 1 ≤ x.block
theorem Pz.below {w : World} {N p M : Nat} {l m t : List UInt8} {acc : List Hd} {b : List UInt8} {a1 : Option Addr} {c1 : Nat} {a2 : Option Addr} {c2 u : Nat} {W W' : World} (h : Pz w N p M l m t acc b a1 c1 a2 c2 u W) (hb : Below W.heap.size W W') : Pz w N p M l m t acc b a1 c1 a2 c2 u W' := by
  obtain ⟨h1, n1, hd⟩ := h.dr
  exact ⟨h.pw.below hb, (hb.block M (blk_lt h.nm)).trans h.nm, ⟨h1, n1, hd.below hb⟩, h.hs.below hb (Nat.le_refl _), h.hb, h.bs.below hb (Nat.le_refl _), h.bb⟩
set_option maxRecDepth 20000 in
set_option maxHeartbeats 8000000 in
theorem parseR_any (a : Option Addr) (l : List UInt8) (cap : Nat) (w : World) (hB : Bytes w a l) (hl : l.length ≤ 1000000000) :
    Calls Tryz.prog 8 #[.slice a l.length cap] w fun e w' => ∃ T : Tl, e = .returned T.v ∧ TbR w' w.heap.size T (parseL l) ∧ Below w.heap.size w w' := by
  obtain ⟨N, hN⟩ : ∃ N, N = w.heap.size := ⟨_, rfl⟩
  obtain ⟨WA, hWA⟩ : ∃ WA, WA = w.alloc (.cells #[.int .i64 0, .int .i64 0, .string ⟨#[]⟩, .string ⟨#[]⟩, .slice none 0 0, .slice none 0 0, .int .i64 0, .bool false, .bool false] 34) := ⟨_, rfl⟩
  have hbA : Below w.heap.size w WA := by rw [hWA]; exact (Below.refl _ _).alloc (Nat.le_refl _) _
  have hszA : WA.heap.size = N + 1 := by rw [hWA, hN]; show (w.heap.push _).size = _; simp
  have hnA : WA.heap[N]? = some (.cells #[.int .i64 0, .int .i64 0, .string ⟨#[]⟩, .string ⟨#[]⟩, .slice none 0 0, .slice none 0 0, .int .i64 0, .bool false, .bool false] 34 (0, 0)) := by rw [hWA, hN]; exact heap_alloc_new w _
  have hcv := convert_bytes WA a cap l (hB.below hbA (Nat.le_refl _))
  obtain ⟨W, hW⟩ : ∃ W, W = WA.alloc (.cells #[.string ⟨l.toArray⟩, .int .i64 0, .int .i64 0, .int .i64 0, .bool false, .int .i64 0, .slice none 0 0] 52) := ⟨_, rfl⟩
  obtain ⟨p, hp⟩ : ∃ p, p = N + 1 := ⟨_, rfl⟩
  have hbW : Below WA.heap.size WA W := by rw [hW]; exact (Below.refl _ _).alloc (Nat.le_refl _) _
  have hd : Dr W p l 0 0 0 false 0 := by
    rw [hW, hp, ← hszA]
    exact heap_alloc_new WA _
  have HN : Hid (w.heap.size = N) := hN.symm
  have HPp : Hid (w.heap.size < p) := by show _ < _; omega
  have hpw : Pw w N p W := ⟨(hbW.block N (by omega)).trans hnA, (Md.ofBelow hbA).below hbW⟩
  have hNp : N ≠ p := by omega
  have HF1 := (show Hid _ from firstR_any p l W hd hl)
  have HPW := (show Hid _ from hpw)
  rw [hWA] at hcv
  clear hd hpw hbW hnA hB
  go_enter Tryz.func8, Tryz.ntmps8
  go_wp2_with fail
  rw [← hWA, ← hN, ← hp, ← hW]
  clear hWA hW hp hN hcv hszA hbA
  refine Calls.mono HF1.out ?_
  clear HF1
  intro e w1 hfs
  cases hx : stepF l 0 st0 with
  | fin t =>
    rw [hx] at hfs
    obtain ⟨⟨m, u, rfl⟩, hdf, hm⟩ := hfs
    have HPl := (show Hid (parseL l = t) from (at_st0 l).fin hx)
    have HX := (show Hid _ from And.intro (HPW.out.md' hm hNp) (And.intro hdf (step0_fail hx)))
    clear hx hdf hm
    unfold rq4
    go_wp2_with fail
    refine Calls.mono (left_told (w.heap.size + 1) (HX.out.1.below ((Below.refl _ _).alloc (Nat.le_refl _) _)) (HX.out.2.1.below ((Below.refl _ _).alloc (Nat.le_refl _) _)) HX.out.2.2) ?_
    rintro e w9 ⟨T9, rfl, hpw9, ht9⟩
    obtain ⟨k9, u9, m9, t9, x1, y1, z1, x2, y2, z2, f9, a9, b9, rfl⟩ := Tl.ex T9 ht9.form
    simp only [Tl.v]
    have hnN := hpw9.nb
    have d0 := cell_blk hnN 0
    have g0 := frozen_blk hnN 0
    have d1 := cell_blk hnN 1
    have g1 := frozen_blk hnN 1
    have d2 := cell_blk hnN 2
    have g2 := frozen_blk hnN 2
    have d3 := cell_blk hnN 3
    have g3 := frozen_blk hnN 3
    have d4 := cell_blk hnN 4
    have g4 := frozen_blk hnN 4
    have d5 := cell_blk hnN 5
    have g5 := frozen_blk hnN 5
    have d6 := cell_blk hnN 6
    have g6 := frozen_blk hnN 6
    have d7 := cell_blk hnN 7
    have g7 := frozen_blk hnN 7
    have d8 := cell_blk hnN 8
    have g8 := frozen_blk hnN 8
    simp at d0 d1 d2 d3 d4 d5 d6 d7 d8
    have H9 := (show Hid _ from And.intro hpw9 ht9)
    clear hnN hpw9 ht9
    go_wp2
    refine bodyPost_ret (v := .agg #[.int .i64 k9, .int .i64 u9, .string m9, .string t9, .slice x1 y1 z1, .slice x2 y2 z2, .int .i64 f9, .bool a9, .bool b9]) (by simp [results, Tryz.results8, go_sem, d0, d1, d2, d3, d4, d5, d6, d7, d8]) rfl ?_
    have h9 := H9.out.2
    rw [← HPl.out] at h9
    exact ⟨_, rfl, (set9 H9.out.1 HN.out HPp.out h9).1, (set9 H9.out.1 HN.out HPp.out h9).2⟩
  | go q s' =>
    rw [hx] at hfs
    obtain ⟨rfl, hdr, hm, rfl⟩ := hfs
    have ha1 := (at_st0 l).go hx
    have hs0 := step0_is hx
    obtain ⟨M, hM⟩ : ∃ M, M = w1.heap.size := ⟨_, rfl⟩
    obtain ⟨W2, hW2⟩ : ∃ W2, W2 = w1.alloc (.cells #[.string ⟨s'.m.toArray⟩, .string ⟨s'.t.toArray⟩, .slice none 0 0, .slice none 0 0] 25) := ⟨_, rfl⟩
    have hb2 : Below w1.heap.size w1 W2 := by rw [hW2]; exact (Below.refl _ _).alloc (Nat.le_refl _) _
    have hnM : W2.heap[M]? = some (.cells #[.string ⟨s'.m.toArray⟩, .string ⟨s'.t.toArray⟩, .slice none 0 0, .slice none 0 0] 25 (0, 0)) := by rw [hW2, hM]; exact heap_alloc_new w1 _
    have hMw0 : w.heap.size ≤ M := by rw [hM]; exact (HPW.out.md' hm hNp).md.size
    have HMw := (show Hid _ from hMw0)
    clear hMw0
    have hMp : M ≠ p := by have := hdr.lt; omega
    have hMN : M ≠ N := by have := blk_lt (HPW.out.md' hm hNp).nb; omega
    have hpw2 := (HPW.out.md' hm hNp).below hb2
    have hsm : Sm [] := fun x hx => by cases hx
    have hd2 := hdr.below hb2
    have hp2 : p < W2.heap.size := hd2.lt
    have HB := (show Hid _ from blockR_any (HdI l s'.m s'.t) p l s' W2 hdI_step ⟨by
      have e : ({ s' with hs := [] } : St) = s' := by rw [← hs0.1]
      rw [e]
      exact ha1, hs0.1, rfl, rfl, hs0.2.1, hs0.2.2.1, hsm⟩ hd2 ha1.1 hl (by rw [hs0.2.2.2.1]; exact Nat.le_refl _) (by rw [hs0.2.2.2.2]; omega))
    have H2 := (show Hid _ from And.intro hpw2 (And.intro hnM (And.intro hp2 (And.intro hMp hMN))))
    have HMs := (show Hid (W2.heap.size = M + 1) from by rw [hW2, hM]; show (w1.heap.push _).size = _; simp)
    unfold rq4
    clear hdr hm ha1 hs0 hb2 hnM hpw2 hd2 hp2 hx hsm
    go_wp2_with fail
    rw [← hM, ← hW2]
    clear hM hW2
    refine Calls.mono HB.out ?_
    clear HB
    rintro e w3 ⟨s1, acc, hi1, hk1, hh1, hacc, hm3, hbk⟩
    have hpw3 := H2.out.1.md' hm3 hNp
    have hnM3 := keep_blk H2.out.2.1 hm3 (fun h => H2.out.2.2.2.1 h)
    cases hx1 : fldL l s1 with
    | fin t =>
      rw [hx1] at hbk
      obtain ⟨rfl, hdf⟩ := hbk
      have HPl := (show Hid (parseL l = t) from hdI_fail hi1 hx1)
      have HX := (show Hid _ from And.intro hpw3 (And.intro hdf (fld_fail hx1)))
      clear hx1 hdf hpw3 hnM3 hi1 hm3
      go_wp2_with fail
      refine Calls.mono (left_told (w.heap.size + 1) HX.out.1 HX.out.2.1 HX.out.2.2) ?_
      rintro e w9 ⟨T9, rfl, hpw9, ht9⟩
      obtain ⟨k9, u9, m9, t9, x1, y1, z1, x2, y2, z2, f9, a9, b9, rfl⟩ := Tl.ex T9 ht9.form
      simp only [Tl.v]
      have hnN := hpw9.nb
      have d0 := cell_blk hnN 0
      have g0 := frozen_blk hnN 0
      have d1 := cell_blk hnN 1
      have g1 := frozen_blk hnN 1
      have d2 := cell_blk hnN 2
      have g2 := frozen_blk hnN 2
      have d3 := cell_blk hnN 3
      have g3 := frozen_blk hnN 3
      have d4 := cell_blk hnN 4
      have g4 := frozen_blk hnN 4
      have d5 := cell_blk hnN 5
      have g5 := frozen_blk hnN 5
      have d6 := cell_blk hnN 6
      have g6 := frozen_blk hnN 6
      have d7 := cell_blk hnN 7
      have g7 := frozen_blk hnN 7
      have d8 := cell_blk hnN 8
      have g8 := frozen_blk hnN 8
      simp at d0 d1 d2 d3 d4 d5 d6 d7 d8
      have H9 := (show Hid _ from And.intro hpw9 ht9)
      clear hnN hpw9 ht9
      go_wp2
      refine bodyPost_ret (v := .agg #[.int .i64 k9, .int .i64 u9, .string m9, .string t9, .slice x1 y1 z1, .slice x2 y2 z2, .int .i64 f9, .bool a9, .bool b9]) (by simp [results, Tryz.results8, go_sem, d0, d1, d2, d3, d4, d5, d6, d7, d8]) rfl ?_
      have h9 := H9.out.2
      rw [← HPl.out] at h9
      exact ⟨_, rfl, (set9 H9.out.1 HN.out HPp.out h9).1, (set9 H9.out.1 HN.out HPp.out h9).2⟩
    | ok s2 z =>
      cases z with
      | some z => rw [hx1] at hbk; exact hbk.elim
      | none =>
        rw [hx1] at hbk
        obtain ⟨v3, rfl, hown3, hdr3, hf3⟩ := hbk
        obtain ⟨a1, c1, rfl, hH3⟩ := own_hdrs hown3
        have h2e := hdI_end hi1 hx1
        have HSm := (show Hid (Sm acc) from hi1.2.2.2.2.2.2)
        have hW23 := hm3.size
        have hhd2 := fld_head hx1 hh1
        have hgo2 := fld_go hx1
        have hSm := hi1.2.2.2.2.2.2
        have HFt := (show Hid _ from fitR_any a1 acc c1 w3 hH3 (by omega) hSm)
        have HE2 := (show Hid _ from h2e)
        have H3 := (show Hid _ from And.intro hpw3 (And.intro hnM3 (And.intro hdr3 (And.intro hown3 hSm))))
        have hacc2 : acc.length ≤ 1000000000 := by omega
        clear hx1 hpw3 hnM3 hi1 hm3 hdr3 hown3 hH3 h2e hSm
        go_wp2_with fail
        refine Calls.mono HFt.out ?_
        clear HFt
        rintro e w4 ⟨rfl, hb4⟩
        have HW24 := (show Hid (W2.heap.size ≤ w4.heap.size) from Nat.le_trans hW23 hb4.size)
        have hpw4 := H3.out.1.below hb4
        have hnM4 := (hb4.block M (blk_lt H3.out.2.1)).trans H3.out.2.1
        have hd4 := H3.out.2.2.1.below hb4
        have hown4 := own_md H3.out.2.2.2.1 (Md.ofBelow (F := fun _ => False) hb4) (fun _ _ h => h)
        have H4 := (show Hid _ from And.intro hpw4 (And.intro hnM4 (And.intro hd4 hown4)))
        have c0 := hd4.cell 0 rfl
        have c1' := hd4.cell 1 rfl
        have c5 := hd4.cell 5 rfl
        have f1 := hd4.fz 1
        have f5 := hd4.fz 5
        have q2 := cell_blk hnM4 2
        have q3 := cell_blk hnM4 3
        have r2 := frozen_blk hnM4 2
        have r3 := frozen_blk hnM4 3
        simp at q2 q3
        clear hpw4 hnM4 hd4 hown4 hb4
        unfold fitE
        by_cases hz : fltL acc = 0
        · obtain ⟨xb, hxb⟩ : ∃ xb, xb = (getL acc nEx).isSome := ⟨_, rfl⟩
          obtain ⟨xv, hxv⟩ : ∃ xv, xv = (getL acc nEx).getD [] := ⟨_, rfl⟩
          have HG := (show Hid (∀ W, Hdrs W a1 acc → Calls Tryz.prog 24 #[.slice a1 acc.length c1, .string ⟨#[101, 120, 112, 101, 99, 116]⟩] W fun e w' => e = .returned (.tuple #[.string ⟨xv.toArray⟩, .bool xb]) ∧ Below W.heap.size W w') from fun W hW => by
            rw [hxb, hxv]
            exact refGet_any a1 acc c1 nEx W hW hacc2)
          have HXb := (show Hid _ from hxb)
          clear hxb hxv
          cases hte : (getL acc nTe).isSome with
          | true =>
            have hSmA := HE2.out.1.go (step2_chunked hz hte)
            have hfi : fitL acc = -1 := by rw [fitL, if_neg (fun h => h hz), if_pos hte]
            rw [hfi, hz]
            have HCk := (show Hid _ from chunksR_any p l { s2 with hs := acc } (w4.setCell ⟨M, 2, none⟩ (.slice a1 acc.length c1)) hSmA HE2.out.2.2.2.1 HE2.out.2.2.2.2 hhd2 hf3 (keep_blk (F := (· = M)) H4.out.2.2.1 ((Md.refl _ _).setp _ _) (fun h => H2.out.2.2.2.1 h.symm)) hl)
            have hMw := HMw.out
            have hn5 : (w4.setCell ⟨M, 2, none⟩ (.slice a1 acc.length c1)).heap[M]? = some (.cells #[.string ⟨s'.m.toArray⟩, .string ⟨s'.t.toArray⟩, .slice a1 acc.length c1, .slice none 0 0] 25 (0, 0)) := set_lst (c := [.string ⟨s'.m.toArray⟩, .string ⟨s'.t.toArray⟩, .slice none 0 0, .slice none 0 0]) H4.out.2.1 2 _
            have hown5 := own_md (F := (· = M)) H4.out.2.2.2 ((Md.refl _ w4).setp 2 (.slice a1 acc.length c1)) (fun j hj => own_ne H4.out.2.2.2 H4.out.2.1 (by decide) j hj)
            have H5 := (show Hid _ from And.intro (H4.out.1.setM hMw H2.out.2.2.2.2 2 (.slice a1 acc.length c1)) (And.intro hn5 hown5))
            have hW2s : w.heap.size + 1 ≤ W2.heap.size := by have := H2.out.1.md.size; have := HMs.out; omega
            clear hSmA hMw hn5 hown5
            go_wp2_with fail
            refine Calls.mono HCk.out ?_
            clear HCk
            rintro e w6 ⟨hm6, ⟨u, b, v6, hpl, rfl, ho6, h6, n6, hd6⟩ | ⟨hfl, ⟨a6, n6, c6, rfl⟩, hdf⟩⟩
            · obtain ⟨a2, c2, e2⟩ := own_slice ho6
              subst e2
              have hn6 := keep_blk H5.out.2.1 hm6 (fun h => H2.out.2.2.2.1 h)
              have hh6 := own_md H5.out.2.2 hm6 (fun j hj => by have := (H5.out.2.2.lt j hj).1; have := H2.out.2.2.1; omega)
              have q3 := cell_blk hn6 3
              have r3 := frozen_blk hn6 3
              simp at q3
              have hHx : Hdrs (w6.setCell ⟨M, 3, none⟩ (.slice a2 b.length c2)) a1 acc := by
                obtain ⟨a', c', e, hH⟩ := own_hdrs (own_md (F := (· = M)) hh6 ((Md.refl _ w6).setp 3 (.slice a2 b.length c2)) (fun j hj => own_ne hh6 hn6 (by decide) j hj))
                simp only [Value.slice.injEq] at e
                obtain ⟨rfl, -, -⟩ := e
                exact hH
              have hBx : Bytes (w6.setCell ⟨M, 3, none⟩ (.slice a2 b.length c2)) a2 b := by
                obtain ⟨a', c', e, hH⟩ := Own.bytes (own_md (F := (· = M)) ho6 ((Md.refl _ w6).setp 3 (.slice a2 b.length c2)) (fun j hj => own_ne ho6 hn6 (by decide) j hj))
                simp only [Value.slice.injEq] at e
                obtain ⟨rfl, -, -⟩ := e
                exact hH
              have HPz : Hid (Pz w N p M l s'.m s'.t acc b a1 c1 a2 c2 u (w6.setCell ⟨M, 3, none⟩ (.slice a2 b.length c2))) := ⟨(H5.out.1.md' hm6 hNp).setM HMw.out H2.out.2.2.2.2 _ _, set_lst (c := [.string ⟨s'.m.toArray⟩, .string ⟨s'.t.toArray⟩, .slice a1 acc.length c1, .slice none 0 0]) hn6 3 _, ⟨h6, n6, keep_blk (F := (· = M)) hd6 ((Md.refl _ _).setp _ _) (fun h => H2.out.2.2.2.1 h.symm)⟩, hHx, fun x hx => Nat.le_trans hW2s (own_blk hh6 x hx), hBx, fun x hx => Nat.le_trans (by have := H5.out.1.md.size; have := H4.out.1.md.size; have hq : W2.heap.size ≤ w4.heap.size := HW24.out; simp [World.setCell]; omega) (own_blk ho6 x hx)⟩
              have HPl := (show Hid (parseL l = .done u s'.m s'.t acc b (closeL acc) (xb && decide (0 < b.length))) from by show _ = _; rw [hpl, CkD, HXb.out, HE2.out.2.1, HE2.out.2.2.1])
              clear hm6 hpl ho6 hd6 hn6 hh6
              go_wp2_with fail
              refine Calls.mono (HG.out _ HPz.out.hs) ?_
              rintro e w8 ⟨rfl, hb8⟩
              have HZ8 := (show Hid _ from HPz.out.below hb8)
              clear hb8 HPz q3 r3
              obtain ⟨h8, n8, hd8⟩ := HZ8.out.dr
              have c1' := hd8.cell 1 rfl
              have q0 := cell_blk HZ8.out.nm 0
              have q1 := cell_blk HZ8.out.nm 1
              have q2 := cell_blk HZ8.out.nm 2
              have q3 := cell_blk HZ8.out.nm 3
              simp at q0 q1 q2 q3
              have HCl := (show Hid (∀ W', Below w8.heap.size w8 W' → Calls Tryz.prog 25 #[.slice a1 acc.length c1] W' fun e w' => e = .returned (.bool (closeL acc)) ∧ Below w8.heap.size w8 w') from fun W' hW => (closesR_any a1 acc c1 W' (HZ8.out.hs.below hW (Nat.le_refl _)) hacc2 HSm.out).mono fun e w' ⟨h1, h2⟩ => ⟨h1, hW.trans (h2.mono hW.size)⟩)
              have HMN := (show Hid (M ≠ N) from H2.out.2.2.2.2)
              have HNp := (show Hid (p ≠ N) from fun h => hNp h.symm)
              clear hd8
              cases xb with
              | false =>
                go_wp2
                refine wp_region_held_drew (S := fun w' => w'.cell? ⟨p, 1, none⟩ = some (.int .i64 (u : Int)) ∧ w'.cell? ⟨M, 0, none⟩ = some (.string ⟨s'.m.toArray⟩) ∧ w'.cell? ⟨M, 1, none⟩ = some (.string ⟨s'.t.toArray⟩) ∧ w'.cell? ⟨M, 2, none⟩ = some (.slice a1 acc.length c1) ∧ w'.cell? ⟨M, 3, none⟩ = some (.slice a2 b.length c2)) (by kernel_rfl) ?_ (fun hHeld => ?_)
                · exact ⟨c1', q0, q1, q2, q3⟩
                refine wpAnyH_take (i := 0) (oi := { dst := some 104, op := Op.move (Operand.tmp 3), type := 50, pos := "stowageref16.go:316", after := #[], guard := none }) (v := ?_) rfl (by kernel_rfl) (by kernel_rfl) (by kernel_rfl) (fun _ _ _ h => h) (Or.inl ⟨by rfl, ?_⟩) (by assumption) ?_
                rotate_left
                · intro w hSw
                  try dsimp only at hSw
                  go_simp
                  all_goals with_reducible rfl
                all_goals skip
                try simp only [Act.put, List.setIfInBounds_toArray, List.set_cons_zero, List.set_cons_succ]
                refine wpAnyH_take (i := 1) (oi := { dst := some 105, op := Op.nilCheck (Operand.tmp 104), type := 0, pos := "stowageref16.go:316", after := #[{ on := 0, ground := Ground.data }], guard := none }) (v := ?_) rfl (by kernel_rfl) (by kernel_rfl) (by kernel_rfl) (fun _ _ _ h => h) (Or.inl ⟨by rfl, ?_⟩) (by assumption) ?_
                rotate_left
                · intro w hSw
                  try dsimp only at hSw
                  go_simp
                  all_goals with_reducible rfl
                all_goals skip
                try simp only [Act.put, List.setIfInBounds_toArray, List.set_cons_zero, List.set_cons_succ]
                refine wpAnyH_take (i := 2) (oi := { dst := some 106, op := Op.fieldAddr 52 (Operand.tmp 105) 1, type := 0, pos := "stowageref16.go:316", after := #[{ on := 1, ground := Ground.data }], guard := none }) (v := ?_) rfl (by kernel_rfl) (by kernel_rfl) (by kernel_rfl) (fun _ _ _ h => h) (Or.inl ⟨by rfl, ?_⟩) (by assumption) ?_
                rotate_left
                · intro w hSw
                  try dsimp only at hSw
                  go_simp
                  all_goals with_reducible rfl
                all_goals skip
                try simp only [Act.put, List.setIfInBounds_toArray, List.set_cons_zero, List.set_cons_succ]
                refine wpAnyH_take (i := 3) (oi := { dst := some 107, op := Op.load 3 (Operand.tmp 106), type := 3, pos := "stowageref16.go:316", after := #[{ on := 2, ground := Ground.data }], guard := none }) (v := ?_) rfl (by kernel_rfl) (by kernel_rfl) (by kernel_rfl) (fun _ _ _ h => h) (Or.inl ⟨by rfl, ?_⟩) (by assumption) ?_
                rotate_left
                · intro w hSw
                  try dsimp only at hSw
                  go_simp
                  all_goals with_reducible rfl
                all_goals skip
                try simp only [Act.put, List.setIfInBounds_toArray, List.set_cons_zero, List.set_cons_succ]
                refine wpAnyH_take (i := 4) (oi := { dst := some 108, op := Op.load 25 (Operand.tmp 4), type := 25, pos := "stowageref16.go:316", after := #[], guard := none }) (v := ?_) rfl (by kernel_rfl) (by kernel_rfl) (by kernel_rfl) (fun _ _ _ h => h) (Or.inl ⟨by rfl, ?_⟩) (by assumption) ?_
                rotate_left
                · intro w hSw
                  try dsimp only at hSw
                  go_simp
                  all_goals with_reducible rfl
                all_goals skip
                try simp only [Act.put, List.setIfInBounds_toArray, List.set_cons_zero, List.set_cons_succ]
                refine wpAnyH_take (i := 5) (oi := { dst := some 109, op := Op.move (Operand.tmp 6), type := 23, pos := "stowageref16.go:316", after := #[], guard := none }) (v := ?_) rfl (by kernel_rfl) (by kernel_rfl) (by kernel_rfl) (fun _ _ _ h => h) (Or.inl ⟨by rfl, ?_⟩) (by assumption) ?_
                rotate_left
                · intro w hSw
                  try dsimp only at hSw
                  go_simp
                  all_goals with_reducible rfl
                all_goals skip
                try simp only [Act.put, List.setIfInBounds_toArray, List.set_cons_zero, List.set_cons_succ]
                refine wpAnyH_take (i := 7) (oi := { dst := some 111, op := Op.move (Operand.tmp 10), type := 4, pos := "stowageref16.go:316", after := #[], guard := none }) (v := ?_) rfl (by kernel_rfl) (by kernel_rfl) (by kernel_rfl) (fun _ _ _ h => h) (Or.inl ⟨by rfl, ?_⟩) (by assumption) ?_
                rotate_left
                · intro w hSw
                  try dsimp only at hSw
                  go_simp
                  all_goals with_reducible rfl
                all_goals skip
                try simp only [Act.put, List.setIfInBounds_toArray, List.set_cons_zero, List.set_cons_succ]
                refine wpAnyH_ready (rs := [6]) (by kernel_rfl) (by simp) ?_
                refine AllReadyH.cons (o := { dst := some 110, op := Op.call { callee := Callee.value (Operand.func 25), args := #[Operand.tmp 109], argTypes := #[23] }, type := 4, pos := "stowageref16.go:316", after := #[{ on := 5, ground := Ground.data }], guard := none }) rfl (fun K hK => ?_) ?_
                · go_simp
                  refine Calls.mono (HCl.out _ ((Below.refl _ _).drew)) ?_
                  rintro e w9 ⟨rfl, hb9⟩
                  try go_wp2_with fail
                  have hz9 := HZ8.out.below hb9
                  obtain ⟨h9, n9, hd9⟩ := hz9.dr
                  have hnN := hz9.pw.nb
                  have z1 := hd9.cell 1 rfl
                  have z10 := cell_blk hz9.nm 0
                  have z11 := cell_blk hz9.nm 1
                  have z12 := cell_blk hz9.nm 2
                  have z13 := cell_blk hz9.nm 3
                  simp at z10 z11 z12 z13
                  have d0 := cell_blk hnN 0
                  have g0 := frozen_blk hnN 0
                  have d1 := cell_blk hnN 1
                  have g1 := frozen_blk hnN 1
                  have d2 := cell_blk hnN 2
                  have g2 := frozen_blk hnN 2
                  have d3 := cell_blk hnN 3
                  have g3 := frozen_blk hnN 3
                  have d4 := cell_blk hnN 4
                  have g4 := frozen_blk hnN 4
                  have d5 := cell_blk hnN 5
                  have g5 := frozen_blk hnN 5
                  have d6 := cell_blk hnN 6
                  have g6 := frozen_blk hnN 6
                  have d7 := cell_blk hnN 7
                  have g7 := frozen_blk hnN 7
                  have d8 := cell_blk hnN 8
                  have g8 := frozen_blk hnN 8
                  simp at d0 d1 d2 d3 d4 d5 d6 d7 d8
                  have H9 := (show Hid _ from hz9)
                  clear hz9 hd9 hnN hb9
                  refine hK.out _ _ ?_ (fun hHeld => ?_)
                  · exact ⟨z1, z10, z11, z12, z13⟩
                  clear hK K
                  try simp only [Act.put, List.setIfInBounds_toArray, List.set_cons_zero, List.set_cons_succ]
                  refine wpAnyH_take (i := 8) (oi := { dst := some 112, op := Op.move (Operand.tmp 111), type := 4, pos := "stowageref16.go:316", after := #[{ on := 7, ground := Ground.data }, { on := 6, ground := Ground.chain }], guard := none }) (v := ?_) rfl (by kernel_rfl) (by kernel_rfl) (by kernel_rfl) (fun _ _ _ h => h) (Or.inl ⟨by rfl, ?_⟩) (by assumption) ?_
                  rotate_left
                  · intro w hSw
                    try dsimp only at hSw
                    go_simp
                    all_goals with_reducible rfl
                  all_goals skip
                  try simp only [Act.put, List.setIfInBounds_toArray, List.set_cons_zero, List.set_cons_succ]
                  refine wpAnyH_take (i := 9) (oi := { dst := some 113, op := Op.fieldAddr 25 (Operand.tmp 4) 3, type := 0, pos := "stowageref16.go:316", after := #[{ on := 8, ground := Ground.guard }], guard := some (8, true) }) (v := undef) rfl (by kernel_rfl) (by kernel_rfl) (by kernel_rfl) (fun _ _ _ h => h) (Or.inr ⟨by rfl, rfl⟩) (by assumption) ?_
                  try simp only [Act.put, List.setIfInBounds_toArray, List.set_cons_zero, List.set_cons_succ]
                  refine wpAnyH_take (i := 10) (oi := { dst := some 114, op := Op.load 22 (Operand.tmp 113), type := 22, pos := "stowageref16.go:316", after := #[{ on := 9, ground := Ground.data }, { on := 8, ground := Ground.guard }], guard := some (8, true) }) (v := undef) rfl (by kernel_rfl) (by kernel_rfl) (by kernel_rfl) (fun _ _ _ h => h) (Or.inr ⟨by rfl, rfl⟩) (by assumption) ?_
                  try simp only [Act.put, List.setIfInBounds_toArray, List.set_cons_zero, List.set_cons_succ]
                  refine wpAnyH_take (i := 11) (oi := { dst := some 115, op := Op.call { callee := Callee.builtin Builtin.len, args := #[Operand.tmp 114], argTypes := #[22] }, type := 3, pos := "stowageref16.go:316", after := #[{ on := 10, ground := Ground.data }, { on := 8, ground := Ground.guard }], guard := some (8, true) }) (v := undef) rfl (by kernel_rfl) (by kernel_rfl) (by kernel_rfl) (fun _ _ _ h => h) (Or.inr ⟨by rfl, rfl⟩) (by assumption) ?_
                  try simp only [Act.put, List.setIfInBounds_toArray, List.set_cons_zero, List.set_cons_succ]
                  refine wpAnyH_take (i := 12) (oi := { dst := some 116, op := Op.binOp BinOp.gtr 3 (Operand.tmp 115) (Operand.const (Value.int IntKind.i64 0)) 3, type := 4, pos := "stowageref16.go:316", after := #[{ on := 11, ground := Ground.data }, { on := 8, ground := Ground.guard }], guard := some (8, true) }) (v := undef) rfl (by kernel_rfl) (by kernel_rfl) (by kernel_rfl) (fun _ _ _ h => h) (Or.inr ⟨by rfl, rfl⟩) (by assumption) ?_
                  try simp only [Act.put, List.setIfInBounds_toArray, List.set_cons_zero, List.set_cons_succ]
                  refine wpAnyH_take (i := 13) (oi := { dst := some 117, op := Op.pick (Operand.tmp 112) (Operand.tmp 116) (Operand.const (Value.bool false)), type := 4, pos := "stowageref16.go:316", after := #[{ on := 8, ground := Ground.data }, { on := 12, ground := Ground.data }], guard := none }) (v := ?_) rfl (by kernel_rfl) (by kernel_rfl) (by kernel_rfl) (fun _ _ _ h => h) (Or.inl ⟨by rfl, ?_⟩) (by assumption) ?_
                  rotate_left
                  · intro w hSw
                    try dsimp only at hSw
                    go_simp
                    all_goals with_reducible rfl
                  all_goals skip
                  try simp only [Act.put, List.setIfInBounds_toArray, List.set_cons_zero, List.set_cons_succ]
                  refine wpAnyH_take (i := 14) (oi := { dst := some 118, op := Op.build 34 #[(0, Operand.const (Value.int IntKind.i64 2)), (1, Operand.tmp 107), (2, Operand.tmp 108), (4, Operand.tmp 110), (5, Operand.tmp 117)], type := 34, pos := "stowageref16.go:316", after := #[{ on := 3, ground := Ground.data }, { on := 4, ground := Ground.data }, { on := 6, ground := Ground.data }, { on := 13, ground := Ground.data }], guard := none }) (v := ?_) rfl (by kernel_rfl) (by kernel_rfl) (by kernel_rfl) (fun _ _ _ h => h) (Or.inl ⟨by rfl, ?_⟩) (by assumption) ?_
                  rotate_left
                  · intro w hSw
                    try dsimp only at hSw
                    go_simp
                    all_goals with_reducible rfl
                  all_goals skip
                  try simp only [Act.put, List.setIfInBounds_toArray, List.set_cons_zero, List.set_cons_succ]
                  refine wpAnyH_ready (rs := [15]) (by kernel_rfl) (by simp) ?_
                  refine AllReadyH.cons (o := { dst := none, op := Op.store 34 (Operand.tmp 2) (Operand.tmp 118), type := 0, pos := "stowageref16.go:316", after := #[{ on := 14, ground := Ground.data }, { on := 8, ground := Ground.chain }, { on := 0, ground := Ground.phase }, { on := 1, ground := Ground.phase }, { on := 2, ground := Ground.phase }, { on := 3, ground := Ground.phase }, { on := 4, ground := Ground.phase }, { on := 5, ground := Ground.phase }, { on := 6, ground := Ground.phase }, { on := 7, ground := Ground.phase }, { on := 8, ground := Ground.phase }, { on := 9, ground := Ground.phase }, { on := 10, ground := Ground.phase }, { on := 11, ground := Ground.phase }, { on := 12, ground := Ground.phase }, { on := 13, ground := Ground.phase }, { on := 14, ground := Ground.phase }], guard := none }) rfl (fun K hK => ?_) ?_
                  · go_simp
                    refine hK.out _ _ ?_ (fun hHeld => ?_)
                    · exact ⟨cellN9 _ _ _ _ _ _ _ _ _ z1 HNp.out, cellN9 _ _ _ _ _ _ _ _ _ z10 HMN.out, cellN9 _ _ _ _ _ _ _ _ _ z11 HMN.out, cellN9 _ _ _ _ _ _ _ _ _ z12 HMN.out, cellN9 _ _ _ _ _ _ _ _ _ z13 HMN.out⟩
                    clear hK K
                    try simp only [Act.put, List.setIfInBounds_toArray, List.set_cons_zero, List.set_cons_succ]
                    refine wpAnyH_done (by kernel_rfl) ?_ _
                    clear hHeld
                    go_wp2
                    refine bodyPost_ret (v := .agg #[.int .i64 2, .int .i64 (u : Int), .string ⟨s'.m.toArray⟩, .string ⟨s'.t.toArray⟩, .slice a1 acc.length c1, .slice a2 b.length c2, .int .i64 0, .bool (closeL acc), .bool (false)]) (by simp [results, Tryz.results8, go_sem, d0, d1, d2, d3, d4, d5, d6, d7, d8]) rfl ?_
                    have hT : TbR w9 (w.heap.size + 1) ⟨2, (u : Int), ⟨s'.m.toArray⟩, ⟨s'.t.toArray⟩, .slice a1 acc.length c1, .slice a2 b.length c2, 0, closeL acc, false⟩ (parseL l) := by
                      rw [HPl.out]
                      exact ⟨_, _, _, _, rfl, H9.out.hs, H9.out.bs, H9.out.hb, H9.out.bb⟩
                    exact ⟨_, rfl, (set9 H9.out.pw HN.out HPp.out hT).1, (set9 H9.out.pw HN.out HPp.out hT).2⟩
                  exact AllReadyH.nil
                exact AllReadyH.nil
              | true =>
                go_wp2
                refine wp_region_held_drew (S := fun w' => w'.cell? ⟨p, 1, none⟩ = some (.int .i64 (u : Int)) ∧ w'.cell? ⟨M, 0, none⟩ = some (.string ⟨s'.m.toArray⟩) ∧ w'.cell? ⟨M, 1, none⟩ = some (.string ⟨s'.t.toArray⟩) ∧ w'.cell? ⟨M, 2, none⟩ = some (.slice a1 acc.length c1) ∧ w'.cell? ⟨M, 3, none⟩ = some (.slice a2 b.length c2)) (by kernel_rfl) ?_ (fun hHeld => ?_)
                · exact ⟨c1', q0, q1, q2, q3⟩
                refine wpAnyH_take (i := 0) (oi := { dst := some 104, op := Op.move (Operand.tmp 3), type := 50, pos := "stowageref16.go:316", after := #[], guard := none }) (v := ?_) rfl (by kernel_rfl) (by kernel_rfl) (by kernel_rfl) (fun _ _ _ h => h) (Or.inl ⟨by rfl, ?_⟩) (by assumption) ?_
                rotate_left
                · intro w hSw
                  try dsimp only at hSw
                  go_simp
                  all_goals with_reducible rfl
                all_goals skip
                try simp only [Act.put, List.setIfInBounds_toArray, List.set_cons_zero, List.set_cons_succ]
                refine wpAnyH_take (i := 1) (oi := { dst := some 105, op := Op.nilCheck (Operand.tmp 104), type := 0, pos := "stowageref16.go:316", after := #[{ on := 0, ground := Ground.data }], guard := none }) (v := ?_) rfl (by kernel_rfl) (by kernel_rfl) (by kernel_rfl) (fun _ _ _ h => h) (Or.inl ⟨by rfl, ?_⟩) (by assumption) ?_
                rotate_left
                · intro w hSw
                  try dsimp only at hSw
                  go_simp
                  all_goals with_reducible rfl
                all_goals skip
                try simp only [Act.put, List.setIfInBounds_toArray, List.set_cons_zero, List.set_cons_succ]
                refine wpAnyH_take (i := 2) (oi := { dst := some 106, op := Op.fieldAddr 52 (Operand.tmp 105) 1, type := 0, pos := "stowageref16.go:316", after := #[{ on := 1, ground := Ground.data }], guard := none }) (v := ?_) rfl (by kernel_rfl) (by kernel_rfl) (by kernel_rfl) (fun _ _ _ h => h) (Or.inl ⟨by rfl, ?_⟩) (by assumption) ?_
                rotate_left
                · intro w hSw
                  try dsimp only at hSw
                  go_simp
                  all_goals with_reducible rfl
                all_goals skip
                try simp only [Act.put, List.setIfInBounds_toArray, List.set_cons_zero, List.set_cons_succ]
                refine wpAnyH_take (i := 3) (oi := { dst := some 107, op := Op.load 3 (Operand.tmp 106), type := 3, pos := "stowageref16.go:316", after := #[{ on := 2, ground := Ground.data }], guard := none }) (v := ?_) rfl (by kernel_rfl) (by kernel_rfl) (by kernel_rfl) (fun _ _ _ h => h) (Or.inl ⟨by rfl, ?_⟩) (by assumption) ?_
                rotate_left
                · intro w hSw
                  try dsimp only at hSw
                  go_simp
                  all_goals with_reducible rfl
                all_goals skip
                try simp only [Act.put, List.setIfInBounds_toArray, List.set_cons_zero, List.set_cons_succ]
                refine wpAnyH_take (i := 4) (oi := { dst := some 108, op := Op.load 25 (Operand.tmp 4), type := 25, pos := "stowageref16.go:316", after := #[], guard := none }) (v := ?_) rfl (by kernel_rfl) (by kernel_rfl) (by kernel_rfl) (fun _ _ _ h => h) (Or.inl ⟨by rfl, ?_⟩) (by assumption) ?_
                rotate_left
                · intro w hSw
                  try dsimp only at hSw
                  go_simp
                  all_goals with_reducible rfl
                all_goals skip
                try simp only [Act.put, List.setIfInBounds_toArray, List.set_cons_zero, List.set_cons_succ]
                refine wpAnyH_take (i := 5) (oi := { dst := some 109, op := Op.move (Operand.tmp 6), type := 23, pos := "stowageref16.go:316", after := #[], guard := none }) (v := ?_) rfl (by kernel_rfl) (by kernel_rfl) (by kernel_rfl) (fun _ _ _ h => h) (Or.inl ⟨by rfl, ?_⟩) (by assumption) ?_
                rotate_left
                · intro w hSw
                  try dsimp only at hSw
                  go_simp
                  all_goals with_reducible rfl
                all_goals skip
                try simp only [Act.put, List.setIfInBounds_toArray, List.set_cons_zero, List.set_cons_succ]
                refine wpAnyH_take (i := 7) (oi := { dst := some 111, op := Op.move (Operand.tmp 10), type := 4, pos := "stowageref16.go:316", after := #[], guard := none }) (v := ?_) rfl (by kernel_rfl) (by kernel_rfl) (by kernel_rfl) (fun _ _ _ h => h) (Or.inl ⟨by rfl, ?_⟩) (by assumption) ?_
                rotate_left
                · intro w hSw
                  try dsimp only at hSw
                  go_simp
                  all_goals with_reducible rfl
                all_goals skip
                try simp only [Act.put, List.setIfInBounds_toArray, List.set_cons_zero, List.set_cons_succ]
                refine wpAnyH_ready (rs := [6]) (by kernel_rfl) (by simp) ?_
                refine AllReadyH.cons (o := { dst := some 110, op := Op.call { callee := Callee.value (Operand.func 25), args := #[Operand.tmp 109], argTypes := #[23] }, type := 4, pos := "stowageref16.go:316", after := #[{ on := 5, ground := Ground.data }], guard := none }) rfl (fun K hK => ?_) ?_
                · go_simp
                  refine Calls.mono (HCl.out _ ((Below.refl _ _).drew)) ?_
                  rintro e w9 ⟨rfl, hb9⟩
                  try go_wp2_with fail
                  have hz9 := HZ8.out.below hb9
                  obtain ⟨h9, n9, hd9⟩ := hz9.dr
                  have hnN := hz9.pw.nb
                  have z1 := hd9.cell 1 rfl
                  have z10 := cell_blk hz9.nm 0
                  have z11 := cell_blk hz9.nm 1
                  have z12 := cell_blk hz9.nm 2
                  have z13 := cell_blk hz9.nm 3
                  simp at z10 z11 z12 z13
                  have d0 := cell_blk hnN 0
                  have g0 := frozen_blk hnN 0
                  have d1 := cell_blk hnN 1
                  have g1 := frozen_blk hnN 1
                  have d2 := cell_blk hnN 2
                  have g2 := frozen_blk hnN 2
                  have d3 := cell_blk hnN 3
                  have g3 := frozen_blk hnN 3
                  have d4 := cell_blk hnN 4
                  have g4 := frozen_blk hnN 4
                  have d5 := cell_blk hnN 5
                  have g5 := frozen_blk hnN 5
                  have d6 := cell_blk hnN 6
                  have g6 := frozen_blk hnN 6
                  have d7 := cell_blk hnN 7
                  have g7 := frozen_blk hnN 7
                  have d8 := cell_blk hnN 8
                  have g8 := frozen_blk hnN 8
                  simp at d0 d1 d2 d3 d4 d5 d6 d7 d8
                  have H9 := (show Hid _ from hz9)
                  clear hz9 hd9 hnN hb9
                  refine hK.out _ _ ?_ (fun hHeld => ?_)
                  · exact ⟨z1, z10, z11, z12, z13⟩
                  clear hK K
                  try simp only [Act.put, List.setIfInBounds_toArray, List.set_cons_zero, List.set_cons_succ]
                  refine wpAnyH_take (i := 8) (oi := { dst := some 112, op := Op.move (Operand.tmp 111), type := 4, pos := "stowageref16.go:316", after := #[{ on := 7, ground := Ground.data }, { on := 6, ground := Ground.chain }], guard := none }) (v := ?_) rfl (by kernel_rfl) (by kernel_rfl) (by kernel_rfl) (fun _ _ _ h => h) (Or.inl ⟨by rfl, ?_⟩) (by assumption) ?_
                  rotate_left
                  · intro w hSw
                    try dsimp only at hSw
                    go_simp
                    all_goals with_reducible rfl
                  all_goals skip
                  try simp only [Act.put, List.setIfInBounds_toArray, List.set_cons_zero, List.set_cons_succ]
                  refine wpAnyH_take (i := 9) (oi := { dst := some 113, op := Op.fieldAddr 25 (Operand.tmp 4) 3, type := 0, pos := "stowageref16.go:316", after := #[{ on := 8, ground := Ground.guard }], guard := some (8, true) }) (v := ?_) rfl (by kernel_rfl) (by kernel_rfl) (by kernel_rfl) (fun _ _ _ h => h) (Or.inl ⟨by rfl, ?_⟩) (by assumption) ?_
                  rotate_left
                  · intro w hSw
                    try dsimp only at hSw
                    go_simp
                    all_goals with_reducible rfl
                  all_goals skip
                  try simp only [Act.put, List.setIfInBounds_toArray, List.set_cons_zero, List.set_cons_succ]
                  refine wpAnyH_take (i := 10) (oi := { dst := some 114, op := Op.load 22 (Operand.tmp 113), type := 22, pos := "stowageref16.go:316", after := #[{ on := 9, ground := Ground.data }, { on := 8, ground := Ground.guard }], guard := some (8, true) }) (v := ?_) rfl (by kernel_rfl) (by kernel_rfl) (by kernel_rfl) (fun _ _ _ h => h) (Or.inl ⟨by rfl, ?_⟩) (by assumption) ?_
                  rotate_left
                  · intro w hSw
                    try dsimp only at hSw
                    go_simp
                    all_goals with_reducible rfl
                  all_goals skip
                  try simp only [Act.put, List.setIfInBounds_toArray, List.set_cons_zero, List.set_cons_succ]
                  refine wpAnyH_take (i := 11) (oi := { dst := some 115, op := Op.call { callee := Callee.builtin Builtin.len, args := #[Operand.tmp 114], argTypes := #[22] }, type := 3, pos := "stowageref16.go:316", after := #[{ on := 10, ground := Ground.data }, { on := 8, ground := Ground.guard }], guard := some (8, true) }) (v := ?_) rfl (by kernel_rfl) (by kernel_rfl) (by kernel_rfl) (fun _ _ _ h => h) (Or.inl ⟨by rfl, ?_⟩) (by assumption) ?_
                  rotate_left
                  · intro w hSw
                    try dsimp only at hSw
                    go_simp
                    all_goals with_reducible rfl
                  all_goals skip
                  try simp only [Act.put, List.setIfInBounds_toArray, List.set_cons_zero, List.set_cons_succ]
                  refine wpAnyH_take (i := 12) (oi := { dst := some 116, op := Op.binOp BinOp.gtr 3 (Operand.tmp 115) (Operand.const (Value.int IntKind.i64 0)) 3, type := 4, pos := "stowageref16.go:316", after := #[{ on := 11, ground := Ground.data }, { on := 8, ground := Ground.guard }], guard := some (8, true) }) (v := ?_) rfl (by kernel_rfl) (by kernel_rfl) (by kernel_rfl) (fun _ _ _ h => h) (Or.inl ⟨by rfl, ?_⟩) (by assumption) ?_
                  rotate_left
                  · intro w hSw
                    try dsimp only at hSw
                    go_simp
                    all_goals with_reducible rfl
                  all_goals skip
                  try simp only [Act.put, List.setIfInBounds_toArray, List.set_cons_zero, List.set_cons_succ]
                  refine wpAnyH_take (i := 13) (oi := { dst := some 117, op := Op.pick (Operand.tmp 112) (Operand.tmp 116) (Operand.const (Value.bool false)), type := 4, pos := "stowageref16.go:316", after := #[{ on := 8, ground := Ground.data }, { on := 12, ground := Ground.data }], guard := none }) (v := ?_) rfl (by kernel_rfl) (by kernel_rfl) (by kernel_rfl) (fun _ _ _ h => h) (Or.inl ⟨by rfl, ?_⟩) (by assumption) ?_
                  rotate_left
                  · intro w hSw
                    try dsimp only at hSw
                    go_simp
                    all_goals with_reducible rfl
                  all_goals skip
                  try simp only [Act.put, List.setIfInBounds_toArray, List.set_cons_zero, List.set_cons_succ]
                  refine wpAnyH_take (i := 14) (oi := { dst := some 118, op := Op.build 34 #[(0, Operand.const (Value.int IntKind.i64 2)), (1, Operand.tmp 107), (2, Operand.tmp 108), (4, Operand.tmp 110), (5, Operand.tmp 117)], type := 34, pos := "stowageref16.go:316", after := #[{ on := 3, ground := Ground.data }, { on := 4, ground := Ground.data }, { on := 6, ground := Ground.data }, { on := 13, ground := Ground.data }], guard := none }) (v := ?_) rfl (by kernel_rfl) (by kernel_rfl) (by kernel_rfl) (fun _ _ _ h => h) (Or.inl ⟨by rfl, ?_⟩) (by assumption) ?_
                  rotate_left
                  · intro w hSw
                    try dsimp only at hSw
                    go_simp
                    all_goals with_reducible rfl
                  all_goals skip
                  try simp only [Act.put, List.setIfInBounds_toArray, List.set_cons_zero, List.set_cons_succ]
                  refine wpAnyH_ready (rs := [15]) (by kernel_rfl) (by simp) ?_
                  refine AllReadyH.cons (o := { dst := none, op := Op.store 34 (Operand.tmp 2) (Operand.tmp 118), type := 0, pos := "stowageref16.go:316", after := #[{ on := 14, ground := Ground.data }, { on := 8, ground := Ground.chain }, { on := 0, ground := Ground.phase }, { on := 1, ground := Ground.phase }, { on := 2, ground := Ground.phase }, { on := 3, ground := Ground.phase }, { on := 4, ground := Ground.phase }, { on := 5, ground := Ground.phase }, { on := 6, ground := Ground.phase }, { on := 7, ground := Ground.phase }, { on := 8, ground := Ground.phase }, { on := 9, ground := Ground.phase }, { on := 10, ground := Ground.phase }, { on := 11, ground := Ground.phase }, { on := 12, ground := Ground.phase }, { on := 13, ground := Ground.phase }, { on := 14, ground := Ground.phase }], guard := none }) rfl (fun K hK => ?_) ?_
                  · go_simp
                    refine hK.out _ _ ?_ (fun hHeld => ?_)
                    · exact ⟨cellN9 _ _ _ _ _ _ _ _ _ z1 HNp.out, cellN9 _ _ _ _ _ _ _ _ _ z10 HMN.out, cellN9 _ _ _ _ _ _ _ _ _ z11 HMN.out, cellN9 _ _ _ _ _ _ _ _ _ z12 HMN.out, cellN9 _ _ _ _ _ _ _ _ _ z13 HMN.out⟩
                    clear hK K
                    try simp only [Act.put, List.setIfInBounds_toArray, List.set_cons_zero, List.set_cons_succ]
                    refine wpAnyH_done (by kernel_rfl) ?_ _
                    clear hHeld
                    go_wp2
                    refine bodyPost_ret (v := .agg #[.int .i64 2, .int .i64 (u : Int), .string ⟨s'.m.toArray⟩, .string ⟨s'.t.toArray⟩, .slice a1 acc.length c1, .slice a2 b.length c2, .int .i64 0, .bool (closeL acc), .bool (decide (0 < b.length))]) (by simp [results, Tryz.results8, go_sem, d0, d1, d2, d3, d4, d5, d6, d7, d8]) rfl ?_
                    have hT : TbR w9 (w.heap.size + 1) ⟨2, (u : Int), ⟨s'.m.toArray⟩, ⟨s'.t.toArray⟩, .slice a1 acc.length c1, .slice a2 b.length c2, 0, closeL acc, decide (0 < b.length)⟩ (parseL l) := by
                      rw [HPl.out]
                      exact ⟨_, _, _, _, rfl, H9.out.hs, H9.out.bs, H9.out.hb, H9.out.bb⟩
                    exact ⟨_, rfl, (set9 H9.out.pw HN.out HPp.out hT).1, (set9 H9.out.pw HN.out HPp.out hT).2⟩
                  exact AllReadyH.nil
                exact AllReadyH.nil
            · have hn6 := keep_blk H5.out.2.1 hm6 (fun h => H2.out.2.2.2.1 h)
              have q3 := cell_blk hn6 3
              have r3 := frozen_blk hn6 3
              simp at q3
              have HPl : Hid (parseL l = parseL l) := rfl
              have HX := (show Hid _ from And.intro ((H5.out.1.md' hm6 hNp).setM HMw.out H2.out.2.2.2.2 3 (.slice a6 n6 c6)) (And.intro (hdf.setM H2.out.2.2.2.1 3 (.slice a6 n6 c6)) hfl))
              clear hn6 hdf hfl hm6
              go_wp2_with fail
              refine Calls.mono (left_told (w.heap.size + 1) HX.out.1 HX.out.2.1 HX.out.2.2) ?_
              clear q3 r3
              rintro e w9 ⟨T9, rfl, hpw9, ht9⟩
              obtain ⟨k9, u9, m9, t9, x1, y1, z1, x2, y2, z2, f9, a9, b9, rfl⟩ := Tl.ex T9 ht9.form
              simp only [Tl.v]
              have hnN := hpw9.nb
              have d0 := cell_blk hnN 0
              have g0 := frozen_blk hnN 0
              have d1 := cell_blk hnN 1
              have g1 := frozen_blk hnN 1
              have d2 := cell_blk hnN 2
              have g2 := frozen_blk hnN 2
              have d3 := cell_blk hnN 3
              have g3 := frozen_blk hnN 3
              have d4 := cell_blk hnN 4
              have g4 := frozen_blk hnN 4
              have d5 := cell_blk hnN 5
              have g5 := frozen_blk hnN 5
              have d6 := cell_blk hnN 6
              have g6 := frozen_blk hnN 6
              have d7 := cell_blk hnN 7
              have g7 := frozen_blk hnN 7
              have d8 := cell_blk hnN 8
              have g8 := frozen_blk hnN 8
              simp at d0 d1 d2 d3 d4 d5 d6 d7 d8
              have H9 := (show Hid _ from And.intro hpw9 ht9)
              clear hnN hpw9 ht9
              go_wp2
              refine bodyPost_ret (v := .agg #[.int .i64 k9, .int .i64 u9, .string m9, .string t9, .slice x1 y1 z1, .slice x2 y2 z2, .int .i64 f9, .bool a9, .bool b9]) (by simp [results, Tryz.results8, go_sem, d0, d1, d2, d3, d4, d5, d6, d7, d8]) rfl ?_
              have h9 := H9.out.2
              exact ⟨_, rfl, (set9 H9.out.1 HN.out HPp.out h9).1, (set9 H9.out.1 HN.out HPp.out h9).2⟩
          | false =>
            have hfz := flt_size hz
            obtain ⟨n, hn⟩ : ∃ n : Nat, En.intV ((getL acc nCl).getD []) = (n : Int) := ⟨(En.intV ((getL acc nCl).getD [])).toNat, by omega⟩
            have hfi : fitL acc = (n : Int) := by rw [fitL, if_neg (fun h => h hz), if_neg (by rw [hte]; decide), hn]
            have hn9 : n ≤ 1048576 := by omega
            have ha3 := HE2.out.1.go (step2_plain hz hte)
            have hnt : (En.intV ((getL acc nCl).getD [])).toNat = n := by omega
            have HA3 := (show Hid (∀ X, stepF l 3 { s2 with hs := acc, size := n } = .fin X → parseL l = X) from fun X hX => At.fin ha3 (by rw [← hX]; simp only [hnt]))
            rw [hfi, hz]
            obtain ⟨k, hk⟩ : ∃ k, k = s2.at_ := ⟨_, rfl⟩
            rw [← hk] at c1' H4 H3
            have HK := (show Hid _ from hk)
            have hkl : k ≤ l.length := by omega
            obtain ⟨S, hS⟩ : ∃ S : ByteArray, S = ⟨l.toArray⟩ := ⟨_, rfl⟩
            have hsz : S.size = l.length := by rw [hS, mk_size]
            have HSe := (show Hid ((⟨l.toArray⟩ : ByteArray) = S) from hS.symm)
            have HXt : Hid (∀ a b, S.extract a b = ⟨((l.take b).drop a).toArray⟩) := by subst hS; exact fun a b => mk_ext l a b
            rw [← hS] at c0
            have hMw := HMw.out
            have hn5 : (w4.setCell ⟨M, 2, none⟩ (.slice a1 acc.length c1)).heap[M]? = some (.cells #[.string ⟨s'.m.toArray⟩, .string ⟨s'.t.toArray⟩, .slice a1 acc.length c1, .slice none 0 0] 25 (0, 0)) := set_lst (c := [.string ⟨s'.m.toArray⟩, .string ⟨s'.t.toArray⟩, .slice none 0 0, .slice none 0 0]) H4.out.2.1 2 _
            have hown5 := own_md (F := (· = M)) H4.out.2.2.2 ((Md.refl _ w4).setp 2 (.slice a1 acc.length c1)) (fun j hj => own_ne H4.out.2.2.2 H4.out.2.1 (by decide) j hj)
            have hd5 : Dr (w4.setCell ⟨M, 2, none⟩ (.slice a1 acc.length c1)) p l k s2.head s2.fields false 0 := keep_blk (F := (· = M)) H4.out.2.2.1 ((Md.refl _ _).setp _ _) (fun h => H2.out.2.2.2.1 h.symm)
            have hpw5 := H4.out.1.setM hMw H2.out.2.2.2.2 2 (.slice a1 acc.length c1)
            obtain ⟨W5, hW5⟩ : ∃ W5, W5 = w4.setCell ⟨M, 2, none⟩ (.slice a1 acc.length c1) := ⟨_, rfl⟩
            rw [← hW5] at hn5 hown5 hd5 hpw5
            have HW5 := (show Hid _ from hW5)
            clear hk hS hn hnt ha3 hMw hfz
            go_upto_region 17 with fail
            rw [← HW5.out]
            clear hW5 HW5 c0 c1' c5 f1 f5 q2 q3 r2 r3
            have H5 := (show Hid _ from And.intro hpw5 (And.intro hn5 (And.intro hd5 hown5)))
            have c0 := hd5.cell 0 rfl
            rw [HSe.out] at c0
            have c1' := hd5.cell 1 rfl
            have f1 := hd5.fz 1
            have q3 := cell_blk hn5 3
            have r3 := frozen_blk hn5 3
            simp at q3
            have hnN := hpw5.nb
            have d0 := cell_blk hnN 0
            have g0 := frozen_blk hnN 0
            have d1 := cell_blk hnN 1
            have g1 := frozen_blk hnN 1
            have d2 := cell_blk hnN 2
            have g2 := frozen_blk hnN 2
            have d3 := cell_blk hnN 3
            have g3 := frozen_blk hnN 3
            have d4 := cell_blk hnN 4
            have g4 := frozen_blk hnN 4
            have d5 := cell_blk hnN 5
            have g5 := frozen_blk hnN 5
            have d6 := cell_blk hnN 6
            have g6 := frozen_blk hnN 6
            have d7 := cell_blk hnN 7
            have g7 := frozen_blk hnN 7
            have d8 := cell_blk hnN 8
            have g8 := frozen_blk hnN 8
            simp at d0 d1 d2 d3 d4 d5 d6 d7 d8
            clear hnN hpw5 hn5 hd5 hown5
            have hk0 : (0 : Int) ≤ (k : Int) := by omega
            have hlk : (k : Int) ≤ (l.length : Int) := by omega
            have hl9 : (l.length : Int) ≤ 1000000000 := by omega
            have hn91 : (n : Int) ≤ 1048576 := by omega
            by_cases hlt : l.length - k < n
            · have HPl := (show Hid (parseL l = .more) from HA3.out _ (step3_moreR (by simp only; rw [← HK.out]; exact hlt)))
              have q1 : decide ((l.length : Int) - (k : Int) < (n : Int)) = true := by simp; omega
              go_wp2
              go_quiet (fail)
              go_wp2
              refine bodyPost_ret (v := .agg #[.int .i64 1, .int .i64 0, .string ⟨#[]⟩, .string ⟨#[]⟩, .slice none 0 0, .slice none 0 0, .int .i64 0, .bool false, .bool false]) (by simp [results, Tryz.results8, go_sem, d0, d1, d2, d3, d4, d5, d6, d7, d8]) rfl ?_
              have hT : ∀ X, TbR X (w.heap.size + 1) moreT (parseL l) := fun X => by rw [HPl.out]; rfl
              exact ⟨moreT, rfl, (set9 (H5.out.1.below (drewN_below W5 _)) HN.out HPp.out (hT _)).1, (set9 (H5.out.1.below (drewN_below W5 _)) HN.out HPp.out (hT _)).2⟩
            · obtain ⟨j, hj⟩ : ∃ j, j = k + n := ⟨_, rfl⟩
              have hjI : (k : Int) + (n : Int) = (j : Int) := by omega
              have q1 : decide ((l.length : Int) - (k : Int) < (n : Int)) = false := by simp; omega
              have w1' : IntKind.i64.wrap (j : Int) = (j : Int) := wrap_i64 (by omega) (by omega)
              have hjz : (j : Int) ≤ (S.size : Int) := by omega
              have hkj : (k : Int) ≤ (j : Int) := by omega
              obtain ⟨pc, hpc⟩ : ∃ pc, pc = (l.drop k).take n := ⟨_, rfl⟩
              have hsl : ∀ wx, (Instr.slice 9 (.string S) (some (.int .i64 (k : Int))) (some (.int .i64 (j : Int))) none).run Tryz.prog wx = .ok (.string ⟨pc.toArray⟩) wx := fun wx => by
                rw [slice_str S k j hkj hjz wx, HXt.out, hj, piece_of, hpc]
              have HPl := (show Hid (parseL l = .done j s'.m s'.t acc pc (closeL acc) (xb && decide (0 < pc.length))) from by
                show _ = _
                rw [HA3.out _ (step3_doneR (by simp only; rw [← HK.out]; exact hlt)), HXb.out, hpc, hj, HK.out]
                simp only [doneL, takeL, HE2.out.2.1, HE2.out.2.2.1, HE2.out.2.2.2.1, List.nil_append, List.flatten_cons, List.flatten_nil, List.append_nil])
              have HJ := (show Hid _ from hj)
              have HBq := (show Hid (∀ q w7, Below (W5.drewN q).drew.heap.size (W5.drewN q).drew w7 → Below W5.heap.size W5 w7) from fun q w7 h => ((drewN_below W5 q).drew).trans h)
              have HMp := (show Hid (M ≠ p) from H2.out.2.2.2.1)
              have HW2s := (show Hid (w.heap.size + 1 ≤ W2.heap.size) from by have := H2.out.1.md.size; have := HMs.out; have := HMw.out; show _ ≤ _; omega)
              clear hj hpc hlt d0 d1 d2 d3 d4 d5 d6 d7 d8 g0 g1 g2 g3 g4 g5 g6 g7 g8
              go_wp2
              go_quiet (fail)
              go_wp2
              refine wp_region_held_drew (S := fun w' => w'.cell? ⟨p, 0, none⟩ = some (.string S) ∧ w'.cell? ⟨p, 1, none⟩ = some (.int .i64 (k : Int))) (by kernel_rfl) ?_ (fun hHeld => ?_)
              · exact ⟨c0, c1'⟩
              refine wpAnyH_take (i := 0) (oi := { dst := some 73, op := Op.move (Operand.tmp 3), type := 50, pos := "stowageref16.go:312", after := #[], guard := none }) (v := ?_) rfl (by kernel_rfl) (by kernel_rfl) (by kernel_rfl) (fun _ _ _ h => h) (Or.inl ⟨by rfl, ?_⟩) (by assumption) ?_
              rotate_left
              · intro w hSw
                try dsimp only at hSw
                go_simp
                all_goals with_reducible rfl
              all_goals skip
              try simp only [Act.put, List.setIfInBounds_toArray, List.set_cons_zero, List.set_cons_succ]
              refine wpAnyH_take (i := 1) (oi := { dst := some 74, op := Op.nilCheck (Operand.tmp 73), type := 0, pos := "stowageref16.go:312", after := #[{ on := 0, ground := Ground.data }], guard := none }) (v := ?_) rfl (by kernel_rfl) (by kernel_rfl) (by kernel_rfl) (fun _ _ _ h => h) (Or.inl ⟨by rfl, ?_⟩) (by assumption) ?_
              rotate_left
              · intro w hSw
                try dsimp only at hSw
                go_simp
                all_goals with_reducible rfl
              all_goals skip
              try simp only [Act.put, List.setIfInBounds_toArray, List.set_cons_zero, List.set_cons_succ]
              refine wpAnyH_take (i := 2) (oi := { dst := some 75, op := Op.fieldAddr 52 (Operand.tmp 74) 0, type := 0, pos := "stowageref16.go:312", after := #[{ on := 1, ground := Ground.data }], guard := none }) (v := ?_) rfl (by kernel_rfl) (by kernel_rfl) (by kernel_rfl) (fun _ _ _ h => h) (Or.inl ⟨by rfl, ?_⟩) (by assumption) ?_
              rotate_left
              · intro w hSw
                try dsimp only at hSw
                go_simp
                all_goals with_reducible rfl
              all_goals skip
              try simp only [Act.put, List.setIfInBounds_toArray, List.set_cons_zero, List.set_cons_succ]
              refine wpAnyH_take (i := 3) (oi := { dst := some 76, op := Op.load 9 (Operand.tmp 75), type := 9, pos := "stowageref16.go:312", after := #[{ on := 2, ground := Ground.data }], guard := none }) (v := ?_) rfl (by kernel_rfl) (by kernel_rfl) (by kernel_rfl) (fun _ _ _ h => h) (Or.inl ⟨by rfl, ?_⟩) (by assumption) ?_
              rotate_left
              · intro w hSw
                try dsimp only at hSw
                go_simp
                all_goals with_reducible rfl
              all_goals skip
              try simp only [Act.put, List.setIfInBounds_toArray, List.set_cons_zero, List.set_cons_succ]
              refine wpAnyH_take (i := 4) (oi := { dst := some 77, op := Op.move (Operand.tmp 3), type := 50, pos := "stowageref16.go:312", after := #[], guard := none }) (v := ?_) rfl (by kernel_rfl) (by kernel_rfl) (by kernel_rfl) (fun _ _ _ h => h) (Or.inl ⟨by rfl, ?_⟩) (by assumption) ?_
              rotate_left
              · intro w hSw
                try dsimp only at hSw
                go_simp
                all_goals with_reducible rfl
              all_goals skip
              try simp only [Act.put, List.setIfInBounds_toArray, List.set_cons_zero, List.set_cons_succ]
              refine wpAnyH_take (i := 5) (oi := { dst := some 78, op := Op.nilCheck (Operand.tmp 77), type := 0, pos := "stowageref16.go:312", after := #[{ on := 4, ground := Ground.data }], guard := none }) (v := ?_) rfl (by kernel_rfl) (by kernel_rfl) (by kernel_rfl) (fun _ _ _ h => h) (Or.inl ⟨by rfl, ?_⟩) (by assumption) ?_
              rotate_left
              · intro w hSw
                try dsimp only at hSw
                go_simp
                all_goals with_reducible rfl
              all_goals skip
              try simp only [Act.put, List.setIfInBounds_toArray, List.set_cons_zero, List.set_cons_succ]
              refine wpAnyH_take (i := 6) (oi := { dst := some 79, op := Op.fieldAddr 52 (Operand.tmp 78) 1, type := 0, pos := "stowageref16.go:312", after := #[{ on := 5, ground := Ground.data }], guard := none }) (v := ?_) rfl (by kernel_rfl) (by kernel_rfl) (by kernel_rfl) (fun _ _ _ h => h) (Or.inl ⟨by rfl, ?_⟩) (by assumption) ?_
              rotate_left
              · intro w hSw
                try dsimp only at hSw
                go_simp
                all_goals with_reducible rfl
              all_goals skip
              try simp only [Act.put, List.setIfInBounds_toArray, List.set_cons_zero, List.set_cons_succ]
              refine wpAnyH_take (i := 7) (oi := { dst := some 80, op := Op.load 3 (Operand.tmp 79), type := 3, pos := "stowageref16.go:312", after := #[{ on := 6, ground := Ground.data }], guard := none }) (v := ?_) rfl (by kernel_rfl) (by kernel_rfl) (by kernel_rfl) (fun _ _ _ h => h) (Or.inl ⟨by rfl, ?_⟩) (by assumption) ?_
              rotate_left
              · intro w hSw
                try dsimp only at hSw
                go_simp
                all_goals with_reducible rfl
              all_goals skip
              try simp only [Act.put, List.setIfInBounds_toArray, List.set_cons_zero, List.set_cons_succ]
              refine wpAnyH_take (i := 8) (oi := { dst := some 81, op := Op.move (Operand.tmp 3), type := 50, pos := "stowageref16.go:312", after := #[], guard := none }) (v := ?_) rfl (by kernel_rfl) (by kernel_rfl) (by kernel_rfl) (fun _ _ _ h => h) (Or.inl ⟨by rfl, ?_⟩) (by assumption) ?_
              rotate_left
              · intro w hSw
                try dsimp only at hSw
                go_simp
                all_goals with_reducible rfl
              all_goals skip
              try simp only [Act.put, List.setIfInBounds_toArray, List.set_cons_zero, List.set_cons_succ]
              refine wpAnyH_take (i := 9) (oi := { dst := some 82, op := Op.nilCheck (Operand.tmp 81), type := 0, pos := "stowageref16.go:312", after := #[{ on := 8, ground := Ground.data }], guard := none }) (v := ?_) rfl (by kernel_rfl) (by kernel_rfl) (by kernel_rfl) (fun _ _ _ h => h) (Or.inl ⟨by rfl, ?_⟩) (by assumption) ?_
              rotate_left
              · intro w hSw
                try dsimp only at hSw
                go_simp
                all_goals with_reducible rfl
              all_goals skip
              try simp only [Act.put, List.setIfInBounds_toArray, List.set_cons_zero, List.set_cons_succ]
              refine wpAnyH_take (i := 10) (oi := { dst := some 83, op := Op.fieldAddr 52 (Operand.tmp 82) 1, type := 0, pos := "stowageref16.go:312", after := #[{ on := 9, ground := Ground.data }], guard := none }) (v := ?_) rfl (by kernel_rfl) (by kernel_rfl) (by kernel_rfl) (fun _ _ _ h => h) (Or.inl ⟨by rfl, ?_⟩) (by assumption) ?_
              rotate_left
              · intro w hSw
                try dsimp only at hSw
                go_simp
                all_goals with_reducible rfl
              all_goals skip
              try simp only [Act.put, List.setIfInBounds_toArray, List.set_cons_zero, List.set_cons_succ]
              refine wpAnyH_take (i := 11) (oi := { dst := some 84, op := Op.load 3 (Operand.tmp 83), type := 3, pos := "stowageref16.go:312", after := #[{ on := 10, ground := Ground.data }], guard := none }) (v := ?_) rfl (by kernel_rfl) (by kernel_rfl) (by kernel_rfl) (fun _ _ _ h => h) (Or.inl ⟨by rfl, ?_⟩) (by assumption) ?_
              rotate_left
              · intro w hSw
                try dsimp only at hSw
                go_simp
                all_goals with_reducible rfl
              all_goals skip
              try simp only [Act.put, List.setIfInBounds_toArray, List.set_cons_zero, List.set_cons_succ]
              refine wpAnyH_take (i := 12) (oi := { dst := some 85, op := Op.move (Operand.tmp 7), type := 3, pos := "stowageref16.go:312", after := #[], guard := none }) (v := ?_) rfl (by kernel_rfl) (by kernel_rfl) (by kernel_rfl) (fun _ _ _ h => h) (Or.inl ⟨by rfl, ?_⟩) (by assumption) ?_
              rotate_left
              · intro w hSw
                try dsimp only at hSw
                go_simp
                all_goals with_reducible rfl
              all_goals skip
              try simp only [Act.put, List.setIfInBounds_toArray, List.set_cons_zero, List.set_cons_succ]
              refine wpAnyH_take (i := 13) (oi := { dst := some 86, op := Op.binOp BinOp.add 3 (Operand.tmp 84) (Operand.tmp 85) 3, type := 3, pos := "stowageref16.go:312", after := #[{ on := 11, ground := Ground.data }, { on := 12, ground := Ground.data }], guard := none }) (v := ?_) rfl (by kernel_rfl) (by kernel_rfl) (by kernel_rfl) (fun _ _ _ h => h) (Or.inl ⟨by rfl, ?_⟩) (by assumption) ?_
              rotate_left
              · intro w hSw
                try dsimp only at hSw
                go_simp
                all_goals with_reducible rfl
              all_goals skip
              try simp only [Act.put, List.setIfInBounds_toArray, List.set_cons_zero, List.set_cons_succ]
              refine wpAnyH_take (i := 14) (oi := { dst := some 87, op := Op.slice 9 (Operand.tmp 76) (some (Operand.tmp 80)) (some (Operand.tmp 86)) none, type := 9, pos := "stowageref16.go:312", after := #[{ on := 3, ground := Ground.data }, { on := 7, ground := Ground.data }, { on := 13, ground := Ground.data }], guard := none }) (v := ?_) rfl (by kernel_rfl) (by kernel_rfl) (by kernel_rfl) (fun _ _ _ h => h) (Or.inl ⟨by rfl, ?_⟩) (by assumption) ?_
              rotate_left
              · intro w hSw
                try dsimp only at hSw
                go_simp
                all_goals with_reducible rfl
              all_goals skip
              try simp only [Act.put, List.setIfInBounds_toArray, List.set_cons_zero, List.set_cons_succ]
              refine wpAnyH_ready (rs := [15]) (by kernel_rfl) (by simp) ?_
              refine AllReadyH.cons (o := { dst := some 88, op := Op.convert 9 22 (Operand.tmp 87), type := 22, pos := "stowageref16.go:312", after := #[{ on := 14, ground := Ground.data }], guard := none }) rfl (fun K hK => ?_) ?_
              · refine step_conv (.tmp 87) rfl pc rfl ?_
                intro gb cp w7 hgb hby7 hb7 hlt7
                have hg8 : gb = W5.heap.size := hgb
                have hb8 := HBq.out _ _ hb7
                have hpw7 := H5.out.1.below hb8
                have hnM7 := (hb8.block M (blk_lt H5.out.2.1)).trans H5.out.2.1
                have hd7 := H5.out.2.2.1.below hb8
                have z0 := hd7.cell 0 rfl
                rw [HSe.out] at z0
                have z1 := hd7.cell 1 rfl
                have y1 := hd7.fz 1
                have z3 := cell_blk hnM7 3
                have y3 := frozen_blk hnM7 3
                simp at z3
                have H7 := (show Hid _ from And.intro hpw7 (And.intro hnM7 (And.intro hd7 (And.intro hb8 (And.intro hby7 (And.intro hg8 hlt7))))))
                clear hpw7 hnM7 hd7 hb8 hb7 hby7 hgb hg8 hlt7
                refine hK.out _ _ ?_ (fun hHeld => ?_)
                · exact ⟨z0, z1⟩
                clear hK K
                try simp only [Act.put, List.setIfInBounds_toArray, List.set_cons_zero, List.set_cons_succ]
                refine wpAnyH_take (i := 16) (oi := { dst := some 89, op := Op.fieldAddr 25 (Operand.tmp 4) 3, type := 0, pos := "stowageref16.go:312", after := #[{ on := 0, ground := Ground.phase }, { on := 1, ground := Ground.phase }, { on := 2, ground := Ground.phase }, { on := 3, ground := Ground.phase }, { on := 4, ground := Ground.phase }, { on := 5, ground := Ground.phase }, { on := 6, ground := Ground.phase }, { on := 7, ground := Ground.phase }, { on := 8, ground := Ground.phase }, { on := 9, ground := Ground.phase }, { on := 10, ground := Ground.phase }, { on := 11, ground := Ground.phase }, { on := 12, ground := Ground.phase }, { on := 13, ground := Ground.phase }, { on := 14, ground := Ground.phase }, { on := 15, ground := Ground.phase }], guard := none }) (v := ?_) rfl (by kernel_rfl) (by kernel_rfl) (by kernel_rfl) (fun _ _ _ h => h) (Or.inl ⟨by rfl, ?_⟩) (by assumption) ?_
                rotate_left
                · intro w hSw
                  try dsimp only at hSw
                  go_simp
                  all_goals with_reducible rfl
                all_goals skip
                try simp only [Act.put, List.setIfInBounds_toArray, List.set_cons_zero, List.set_cons_succ]
                refine wpAnyH_ready (rs := [17]) (by kernel_rfl) (by simp) ?_
                refine AllReadyH.cons (o := { dst := none, op := Op.store 22 (Operand.tmp 89) (Operand.tmp 88), type := 0, pos := "stowageref16.go:312", after := #[{ on := 16, ground := Ground.data }, { on := 15, ground := Ground.data }, { on := 0, ground := Ground.phase }, { on := 1, ground := Ground.phase }, { on := 2, ground := Ground.phase }, { on := 3, ground := Ground.phase }, { on := 4, ground := Ground.phase }, { on := 5, ground := Ground.phase }, { on := 6, ground := Ground.phase }, { on := 7, ground := Ground.phase }, { on := 8, ground := Ground.phase }, { on := 9, ground := Ground.phase }, { on := 10, ground := Ground.phase }, { on := 11, ground := Ground.phase }, { on := 12, ground := Ground.phase }, { on := 13, ground := Ground.phase }, { on := 14, ground := Ground.phase }, { on := 15, ground := Ground.phase }], guard := none }) rfl (fun K hK => ?_) ?_
                · go_simp
                  refine hK.out _ _ ?_ (fun hHeld => ?_)
                  · exact ⟨cellM z0 HMp.out, cellM z1 HMp.out⟩
                  clear hK K
                  try simp only [Act.put, List.setIfInBounds_toArray, List.set_cons_zero, List.set_cons_succ]
                  refine wpAnyH_done (by kernel_rfl) ?_ _
                  clear hHeld
                  have hMp' := HMp.out
                  have hpM' : p ≠ M := fun h => HMp.out h.symm
                  clear c0 c1' f1 q3 r3
                  have HPz : Hid (Pz w N p M l s'.m s'.t acc pc a1 c1 (some ⟨gb, 0, none⟩) cp j ((w7.setCell ⟨M, 3, none⟩ (.slice (some ⟨gb, 0, none⟩) pc.length cp)).setCell ⟨p, 1, none⟩ (.int .i64 (j : Int)))) := by
                    have hM5 := blk_lt H5.out.2.1
                    have hp5 := H5.out.2.2.1.lt
                    have hg := H7.out.2.2.2.2.2.1
                    have hx1 := own_blk H5.out.2.2.2
                    have hd8 : Dr (w7.setCell ⟨M, 3, none⟩ (.slice (some ⟨gb, 0, none⟩) pc.length cp)) p l k s2.head s2.fields false 0 := keep_blk (F := (· = M)) H7.out.2.2.1 ((Md.refl _ _).setp _ _) hpM'
                    have hh7 : Hdrs w7 a1 acc := by
                      obtain ⟨a', c', e, hH⟩ := own_hdrs H5.out.2.2.2
                      simp only [Value.slice.injEq] at e
                      obtain ⟨rfl, -, -⟩ := e
                      exact hH.below H7.out.2.2.2.1 (Nat.le_refl _)
                    refine ⟨(H7.out.1.setM HMw.out H2.out.2.2.2.2 _ _).md' ((Md.refl (· = p) _).setp _ _) hNp, keep_blk (F := (· = p)) (set_lst (c := [.string ⟨s'.m.toArray⟩, .string ⟨s'.t.toArray⟩, .slice a1 acc.length c1, .slice none 0 0]) H7.out.2.1 3 _) ((Md.refl _ _).setp _ _) hMp', ⟨s2.head, s2.fields, Dr.of (set_lst hd8 1 _) rfl⟩, ?_, fun x hx => Nat.le_trans HW2s.out (hx1 x hx), ?_, fun x hx => ?_⟩
                    · refine (hh7.md (F := (· = M)) ((Md.refl _ _).setp _ _) (fun b off e => ?_)).md (F := (· = p)) ((Md.refl _ _).setp _ _) (fun b off e => ?_)
                      · have h1 := hx1 _ e
                        have h2 := HMs.out
                        simp only at h1
                        omega
                      · have h1 := hx1 _ e
                        have h2 := H2.out.2.2.1
                        simp only at h1
                        omega
                    · refine (H7.out.2.2.2.2.1.md (F := (· = M)) ((Md.refl _ _).setp _ _) (fun b off e => ?_)).md (F := (· = p)) ((Md.refl _ _).setp _ _) (fun b off e => ?_)
                      · simp only [Option.some.injEq, Addr.mk.injEq] at e
                        omega
                      · simp only [Option.some.injEq, Addr.mk.injEq] at e
                        omega
                    · simp only [Option.some.injEq] at hx
                      subst hx
                      have h1 := H5.out.1.md.size
                      have h2 := HMw.out
                      simp only
                      omega
                  go_wp2_with fail
                  refine Calls.mono (HG.out _ HPz.out.hs) ?_
                  rintro e w8 ⟨rfl, hb8⟩
                  have HZ8 := (show Hid _ from HPz.out.below hb8)
                  clear hb8 HPz z0 z1 y1 z3 y3 hMp' hpM'
                  obtain ⟨h8, n8, hd8⟩ := HZ8.out.dr
                  have c1' := hd8.cell 1 rfl
                  have q0 := cell_blk HZ8.out.nm 0
                  have q1 := cell_blk HZ8.out.nm 1
                  have q2 := cell_blk HZ8.out.nm 2
                  have q3 := cell_blk HZ8.out.nm 3
                  simp at q0 q1 q2 q3
                  have HCl := (show Hid (∀ W', Below w8.heap.size w8 W' → Calls Tryz.prog 25 #[.slice a1 acc.length c1] W' fun e w' => e = .returned (.bool (closeL acc)) ∧ Below w8.heap.size w8 w') from fun W' hW => (closesR_any a1 acc c1 W' (HZ8.out.hs.below hW (Nat.le_refl _)) hacc2 HSm.out).mono fun e w' ⟨h1, h2⟩ => ⟨h1, hW.trans (h2.mono hW.size)⟩)
                  have HMN := (show Hid (M ≠ N) from H2.out.2.2.2.2)
                  have HNp := (show Hid (p ≠ N) from fun h => hNp h.symm)
                  clear hd8
                  cases xb with
                  | false =>
                    go_wp2
                    refine wp_region_held_drew (S := fun w' => w'.cell? ⟨p, 1, none⟩ = some (.int .i64 (j : Int)) ∧ w'.cell? ⟨M, 0, none⟩ = some (.string ⟨s'.m.toArray⟩) ∧ w'.cell? ⟨M, 1, none⟩ = some (.string ⟨s'.t.toArray⟩) ∧ w'.cell? ⟨M, 2, none⟩ = some (.slice a1 acc.length c1) ∧ w'.cell? ⟨M, 3, none⟩ = some (.slice (some ⟨gb, 0, none⟩) pc.length cp)) (by kernel_rfl) ?_ (fun hHeld => ?_)
                    · exact ⟨c1', q0, q1, q2, q3⟩
                    refine wpAnyH_take (i := 0) (oi := { dst := some 104, op := Op.move (Operand.tmp 3), type := 50, pos := "stowageref16.go:316", after := #[], guard := none }) (v := ?_) rfl (by kernel_rfl) (by kernel_rfl) (by kernel_rfl) (fun _ _ _ h => h) (Or.inl ⟨by rfl, ?_⟩) (by assumption) ?_
                    rotate_left
                    · intro w hSw
                      try dsimp only at hSw
                      go_simp
                      all_goals with_reducible rfl
                    all_goals skip
                    try simp only [Act.put, List.setIfInBounds_toArray, List.set_cons_zero, List.set_cons_succ]
                    refine wpAnyH_take (i := 1) (oi := { dst := some 105, op := Op.nilCheck (Operand.tmp 104), type := 0, pos := "stowageref16.go:316", after := #[{ on := 0, ground := Ground.data }], guard := none }) (v := ?_) rfl (by kernel_rfl) (by kernel_rfl) (by kernel_rfl) (fun _ _ _ h => h) (Or.inl ⟨by rfl, ?_⟩) (by assumption) ?_
                    rotate_left
                    · intro w hSw
                      try dsimp only at hSw
                      go_simp
                      all_goals with_reducible rfl
                    all_goals skip
                    try simp only [Act.put, List.setIfInBounds_toArray, List.set_cons_zero, List.set_cons_succ]
                    refine wpAnyH_take (i := 2) (oi := { dst := some 106, op := Op.fieldAddr 52 (Operand.tmp 105) 1, type := 0, pos := "stowageref16.go:316", after := #[{ on := 1, ground := Ground.data }], guard := none }) (v := ?_) rfl (by kernel_rfl) (by kernel_rfl) (by kernel_rfl) (fun _ _ _ h => h) (Or.inl ⟨by rfl, ?_⟩) (by assumption) ?_
                    rotate_left
                    · intro w hSw
                      try dsimp only at hSw
                      go_simp
                      all_goals with_reducible rfl
                    all_goals skip
                    try simp only [Act.put, List.setIfInBounds_toArray, List.set_cons_zero, List.set_cons_succ]
                    refine wpAnyH_take (i := 3) (oi := { dst := some 107, op := Op.load 3 (Operand.tmp 106), type := 3, pos := "stowageref16.go:316", after := #[{ on := 2, ground := Ground.data }], guard := none }) (v := ?_) rfl (by kernel_rfl) (by kernel_rfl) (by kernel_rfl) (fun _ _ _ h => h) (Or.inl ⟨by rfl, ?_⟩) (by assumption) ?_
                    rotate_left
                    · intro w hSw
                      try dsimp only at hSw
                      go_simp
                      all_goals with_reducible rfl
                    all_goals skip
                    try simp only [Act.put, List.setIfInBounds_toArray, List.set_cons_zero, List.set_cons_succ]
                    refine wpAnyH_take (i := 4) (oi := { dst := some 108, op := Op.load 25 (Operand.tmp 4), type := 25, pos := "stowageref16.go:316", after := #[], guard := none }) (v := ?_) rfl (by kernel_rfl) (by kernel_rfl) (by kernel_rfl) (fun _ _ _ h => h) (Or.inl ⟨by rfl, ?_⟩) (by assumption) ?_
                    rotate_left
                    · intro w hSw
                      try dsimp only at hSw
                      go_simp
                      all_goals with_reducible rfl
                    all_goals skip
                    try simp only [Act.put, List.setIfInBounds_toArray, List.set_cons_zero, List.set_cons_succ]
                    refine wpAnyH_take (i := 5) (oi := { dst := some 109, op := Op.move (Operand.tmp 6), type := 23, pos := "stowageref16.go:316", after := #[], guard := none }) (v := ?_) rfl (by kernel_rfl) (by kernel_rfl) (by kernel_rfl) (fun _ _ _ h => h) (Or.inl ⟨by rfl, ?_⟩) (by assumption) ?_
                    rotate_left
                    · intro w hSw
                      try dsimp only at hSw
                      go_simp
                      all_goals with_reducible rfl
                    all_goals skip
                    try simp only [Act.put, List.setIfInBounds_toArray, List.set_cons_zero, List.set_cons_succ]
                    refine wpAnyH_take (i := 7) (oi := { dst := some 111, op := Op.move (Operand.tmp 10), type := 4, pos := "stowageref16.go:316", after := #[], guard := none }) (v := ?_) rfl (by kernel_rfl) (by kernel_rfl) (by kernel_rfl) (fun _ _ _ h => h) (Or.inl ⟨by rfl, ?_⟩) (by assumption) ?_
                    rotate_left
                    · intro w hSw
                      try dsimp only at hSw
                      go_simp
                      all_goals with_reducible rfl
                    all_goals skip
                    try simp only [Act.put, List.setIfInBounds_toArray, List.set_cons_zero, List.set_cons_succ]
                    refine wpAnyH_ready (rs := [6]) (by kernel_rfl) (by simp) ?_
                    refine AllReadyH.cons (o := { dst := some 110, op := Op.call { callee := Callee.value (Operand.func 25), args := #[Operand.tmp 109], argTypes := #[23] }, type := 4, pos := "stowageref16.go:316", after := #[{ on := 5, ground := Ground.data }], guard := none }) rfl (fun K hK => ?_) ?_
                    · go_simp
                      refine Calls.mono (HCl.out _ ((Below.refl _ _).drew)) ?_
                      rintro e w9 ⟨rfl, hb9⟩
                      try go_wp2_with fail
                      have hz9 := HZ8.out.below hb9
                      obtain ⟨h9, n9, hd9⟩ := hz9.dr
                      have hnN := hz9.pw.nb
                      have z1 := hd9.cell 1 rfl
                      have z10 := cell_blk hz9.nm 0
                      have z11 := cell_blk hz9.nm 1
                      have z12 := cell_blk hz9.nm 2
                      have z13 := cell_blk hz9.nm 3
                      simp at z10 z11 z12 z13
                      have d0 := cell_blk hnN 0
                      have g0 := frozen_blk hnN 0
                      have d1 := cell_blk hnN 1
                      have g1 := frozen_blk hnN 1
                      have d2 := cell_blk hnN 2
                      have g2 := frozen_blk hnN 2
                      have d3 := cell_blk hnN 3
                      have g3 := frozen_blk hnN 3
                      have d4 := cell_blk hnN 4
                      have g4 := frozen_blk hnN 4
                      have d5 := cell_blk hnN 5
                      have g5 := frozen_blk hnN 5
                      have d6 := cell_blk hnN 6
                      have g6 := frozen_blk hnN 6
                      have d7 := cell_blk hnN 7
                      have g7 := frozen_blk hnN 7
                      have d8 := cell_blk hnN 8
                      have g8 := frozen_blk hnN 8
                      simp at d0 d1 d2 d3 d4 d5 d6 d7 d8
                      have H9 := (show Hid _ from hz9)
                      clear hz9 hd9 hnN hb9
                      refine hK.out _ _ ?_ (fun hHeld => ?_)
                      · exact ⟨z1, z10, z11, z12, z13⟩
                      clear hK K
                      try simp only [Act.put, List.setIfInBounds_toArray, List.set_cons_zero, List.set_cons_succ]
                      refine wpAnyH_take (i := 8) (oi := { dst := some 112, op := Op.move (Operand.tmp 111), type := 4, pos := "stowageref16.go:316", after := #[{ on := 7, ground := Ground.data }, { on := 6, ground := Ground.chain }], guard := none }) (v := ?_) rfl (by kernel_rfl) (by kernel_rfl) (by kernel_rfl) (fun _ _ _ h => h) (Or.inl ⟨by rfl, ?_⟩) (by assumption) ?_
                      rotate_left
                      · intro w hSw
                        try dsimp only at hSw
                        go_simp
                        all_goals with_reducible rfl
                      all_goals skip
                      try simp only [Act.put, List.setIfInBounds_toArray, List.set_cons_zero, List.set_cons_succ]
                      refine wpAnyH_take (i := 9) (oi := { dst := some 113, op := Op.fieldAddr 25 (Operand.tmp 4) 3, type := 0, pos := "stowageref16.go:316", after := #[{ on := 8, ground := Ground.guard }], guard := some (8, true) }) (v := undef) rfl (by kernel_rfl) (by kernel_rfl) (by kernel_rfl) (fun _ _ _ h => h) (Or.inr ⟨by rfl, rfl⟩) (by assumption) ?_
                      try simp only [Act.put, List.setIfInBounds_toArray, List.set_cons_zero, List.set_cons_succ]
                      refine wpAnyH_take (i := 10) (oi := { dst := some 114, op := Op.load 22 (Operand.tmp 113), type := 22, pos := "stowageref16.go:316", after := #[{ on := 9, ground := Ground.data }, { on := 8, ground := Ground.guard }], guard := some (8, true) }) (v := undef) rfl (by kernel_rfl) (by kernel_rfl) (by kernel_rfl) (fun _ _ _ h => h) (Or.inr ⟨by rfl, rfl⟩) (by assumption) ?_
                      try simp only [Act.put, List.setIfInBounds_toArray, List.set_cons_zero, List.set_cons_succ]
                      refine wpAnyH_take (i := 11) (oi := { dst := some 115, op := Op.call { callee := Callee.builtin Builtin.len, args := #[Operand.tmp 114], argTypes := #[22] }, type := 3, pos := "stowageref16.go:316", after := #[{ on := 10, ground := Ground.data }, { on := 8, ground := Ground.guard }], guard := some (8, true) }) (v := undef) rfl (by kernel_rfl) (by kernel_rfl) (by kernel_rfl) (fun _ _ _ h => h) (Or.inr ⟨by rfl, rfl⟩) (by assumption) ?_
                      try simp only [Act.put, List.setIfInBounds_toArray, List.set_cons_zero, List.set_cons_succ]
                      refine wpAnyH_take (i := 12) (oi := { dst := some 116, op := Op.binOp BinOp.gtr 3 (Operand.tmp 115) (Operand.const (Value.int IntKind.i64 0)) 3, type := 4, pos := "stowageref16.go:316", after := #[{ on := 11, ground := Ground.data }, { on := 8, ground := Ground.guard }], guard := some (8, true) }) (v := undef) rfl (by kernel_rfl) (by kernel_rfl) (by kernel_rfl) (fun _ _ _ h => h) (Or.inr ⟨by rfl, rfl⟩) (by assumption) ?_
                      try simp only [Act.put, List.setIfInBounds_toArray, List.set_cons_zero, List.set_cons_succ]
                      refine wpAnyH_take (i := 13) (oi := { dst := some 117, op := Op.pick (Operand.tmp 112) (Operand.tmp 116) (Operand.const (Value.bool false)), type := 4, pos := "stowageref16.go:316", after := #[{ on := 8, ground := Ground.data }, { on := 12, ground := Ground.data }], guard := none }) (v := ?_) rfl (by kernel_rfl) (by kernel_rfl) (by kernel_rfl) (fun _ _ _ h => h) (Or.inl ⟨by rfl, ?_⟩) (by assumption) ?_
                      rotate_left
                      · intro w hSw
                        try dsimp only at hSw
                        go_simp
                        all_goals with_reducible rfl
                      all_goals skip
                      try simp only [Act.put, List.setIfInBounds_toArray, List.set_cons_zero, List.set_cons_succ]
                      refine wpAnyH_take (i := 14) (oi := { dst := some 118, op := Op.build 34 #[(0, Operand.const (Value.int IntKind.i64 2)), (1, Operand.tmp 107), (2, Operand.tmp 108), (4, Operand.tmp 110), (5, Operand.tmp 117)], type := 34, pos := "stowageref16.go:316", after := #[{ on := 3, ground := Ground.data }, { on := 4, ground := Ground.data }, { on := 6, ground := Ground.data }, { on := 13, ground := Ground.data }], guard := none }) (v := ?_) rfl (by kernel_rfl) (by kernel_rfl) (by kernel_rfl) (fun _ _ _ h => h) (Or.inl ⟨by rfl, ?_⟩) (by assumption) ?_
                      rotate_left
                      · intro w hSw
                        try dsimp only at hSw
                        go_simp
                        all_goals with_reducible rfl
                      all_goals skip
                      try simp only [Act.put, List.setIfInBounds_toArray, List.set_cons_zero, List.set_cons_succ]
                      refine wpAnyH_ready (rs := [15]) (by kernel_rfl) (by simp) ?_
                      refine AllReadyH.cons (o := { dst := none, op := Op.store 34 (Operand.tmp 2) (Operand.tmp 118), type := 0, pos := "stowageref16.go:316", after := #[{ on := 14, ground := Ground.data }, { on := 8, ground := Ground.chain }, { on := 0, ground := Ground.phase }, { on := 1, ground := Ground.phase }, { on := 2, ground := Ground.phase }, { on := 3, ground := Ground.phase }, { on := 4, ground := Ground.phase }, { on := 5, ground := Ground.phase }, { on := 6, ground := Ground.phase }, { on := 7, ground := Ground.phase }, { on := 8, ground := Ground.phase }, { on := 9, ground := Ground.phase }, { on := 10, ground := Ground.phase }, { on := 11, ground := Ground.phase }, { on := 12, ground := Ground.phase }, { on := 13, ground := Ground.phase }, { on := 14, ground := Ground.phase }], guard := none }) rfl (fun K hK => ?_) ?_
                      · go_simp
                        refine hK.out _ _ ?_ (fun hHeld => ?_)
                        · exact ⟨cellN9 _ _ _ _ _ _ _ _ _ z1 HNp.out, cellN9 _ _ _ _ _ _ _ _ _ z10 HMN.out, cellN9 _ _ _ _ _ _ _ _ _ z11 HMN.out, cellN9 _ _ _ _ _ _ _ _ _ z12 HMN.out, cellN9 _ _ _ _ _ _ _ _ _ z13 HMN.out⟩
                        clear hK K
                        try simp only [Act.put, List.setIfInBounds_toArray, List.set_cons_zero, List.set_cons_succ]
                        refine wpAnyH_done (by kernel_rfl) ?_ _
                        clear hHeld
                        go_wp2
                        refine bodyPost_ret (v := .agg #[.int .i64 2, .int .i64 (j : Int), .string ⟨s'.m.toArray⟩, .string ⟨s'.t.toArray⟩, .slice a1 acc.length c1, .slice (some ⟨gb, 0, none⟩) pc.length cp, .int .i64 0, .bool (closeL acc), .bool (false)]) (by simp [results, Tryz.results8, go_sem, d0, d1, d2, d3, d4, d5, d6, d7, d8]) rfl ?_
                        have hT : TbR w9 (w.heap.size + 1) ⟨2, (j : Int), ⟨s'.m.toArray⟩, ⟨s'.t.toArray⟩, .slice a1 acc.length c1, .slice (some ⟨gb, 0, none⟩) pc.length cp, 0, closeL acc, false⟩ (parseL l) := by
                          rw [HPl.out]
                          exact ⟨_, _, _, _, rfl, H9.out.hs, H9.out.bs, H9.out.hb, H9.out.bb⟩
                        exact ⟨_, rfl, (set9 H9.out.pw HN.out HPp.out hT).1, (set9 H9.out.pw HN.out HPp.out hT).2⟩
                      exact AllReadyH.nil
                    exact AllReadyH.nil
                  | true =>
                    go_wp2
                    refine wp_region_held_drew (S := fun w' => w'.cell? ⟨p, 1, none⟩ = some (.int .i64 (j : Int)) ∧ w'.cell? ⟨M, 0, none⟩ = some (.string ⟨s'.m.toArray⟩) ∧ w'.cell? ⟨M, 1, none⟩ = some (.string ⟨s'.t.toArray⟩) ∧ w'.cell? ⟨M, 2, none⟩ = some (.slice a1 acc.length c1) ∧ w'.cell? ⟨M, 3, none⟩ = some (.slice (some ⟨gb, 0, none⟩) pc.length cp)) (by kernel_rfl) ?_ (fun hHeld => ?_)
                    · exact ⟨c1', q0, q1, q2, q3⟩
                    refine wpAnyH_take (i := 0) (oi := { dst := some 104, op := Op.move (Operand.tmp 3), type := 50, pos := "stowageref16.go:316", after := #[], guard := none }) (v := ?_) rfl (by kernel_rfl) (by kernel_rfl) (by kernel_rfl) (fun _ _ _ h => h) (Or.inl ⟨by rfl, ?_⟩) (by assumption) ?_
                    rotate_left
                    · intro w hSw
                      try dsimp only at hSw
                      go_simp
                      all_goals with_reducible rfl
                    all_goals skip
                    try simp only [Act.put, List.setIfInBounds_toArray, List.set_cons_zero, List.set_cons_succ]
                    refine wpAnyH_take (i := 1) (oi := { dst := some 105, op := Op.nilCheck (Operand.tmp 104), type := 0, pos := "stowageref16.go:316", after := #[{ on := 0, ground := Ground.data }], guard := none }) (v := ?_) rfl (by kernel_rfl) (by kernel_rfl) (by kernel_rfl) (fun _ _ _ h => h) (Or.inl ⟨by rfl, ?_⟩) (by assumption) ?_
                    rotate_left
                    · intro w hSw
                      try dsimp only at hSw
                      go_simp
                      all_goals with_reducible rfl
                    all_goals skip
                    try simp only [Act.put, List.setIfInBounds_toArray, List.set_cons_zero, List.set_cons_succ]
                    refine wpAnyH_take (i := 2) (oi := { dst := some 106, op := Op.fieldAddr 52 (Operand.tmp 105) 1, type := 0, pos := "stowageref16.go:316", after := #[{ on := 1, ground := Ground.data }], guard := none }) (v := ?_) rfl (by kernel_rfl) (by kernel_rfl) (by kernel_rfl) (fun _ _ _ h => h) (Or.inl ⟨by rfl, ?_⟩) (by assumption) ?_
                    rotate_left
                    · intro w hSw
                      try dsimp only at hSw
                      go_simp
                      all_goals with_reducible rfl
                    all_goals skip
                    try simp only [Act.put, List.setIfInBounds_toArray, List.set_cons_zero, List.set_cons_succ]
                    refine wpAnyH_take (i := 3) (oi := { dst := some 107, op := Op.load 3 (Operand.tmp 106), type := 3, pos := "stowageref16.go:316", after := #[{ on := 2, ground := Ground.data }], guard := none }) (v := ?_) rfl (by kernel_rfl) (by kernel_rfl) (by kernel_rfl) (fun _ _ _ h => h) (Or.inl ⟨by rfl, ?_⟩) (by assumption) ?_
                    rotate_left
                    · intro w hSw
                      try dsimp only at hSw
                      go_simp
                      all_goals with_reducible rfl
                    all_goals skip
                    try simp only [Act.put, List.setIfInBounds_toArray, List.set_cons_zero, List.set_cons_succ]
                    refine wpAnyH_take (i := 4) (oi := { dst := some 108, op := Op.load 25 (Operand.tmp 4), type := 25, pos := "stowageref16.go:316", after := #[], guard := none }) (v := ?_) rfl (by kernel_rfl) (by kernel_rfl) (by kernel_rfl) (fun _ _ _ h => h) (Or.inl ⟨by rfl, ?_⟩) (by assumption) ?_
                    rotate_left
                    · intro w hSw
                      try dsimp only at hSw
                      go_simp
                      all_goals with_reducible rfl
                    all_goals skip
                    try simp only [Act.put, List.setIfInBounds_toArray, List.set_cons_zero, List.set_cons_succ]
                    refine wpAnyH_take (i := 5) (oi := { dst := some 109, op := Op.move (Operand.tmp 6), type := 23, pos := "stowageref16.go:316", after := #[], guard := none }) (v := ?_) rfl (by kernel_rfl) (by kernel_rfl) (by kernel_rfl) (fun _ _ _ h => h) (Or.inl ⟨by rfl, ?_⟩) (by assumption) ?_
                    rotate_left
                    · intro w hSw
                      try dsimp only at hSw
                      go_simp
                      all_goals with_reducible rfl
                    all_goals skip
                    try simp only [Act.put, List.setIfInBounds_toArray, List.set_cons_zero, List.set_cons_succ]
                    refine wpAnyH_take (i := 7) (oi := { dst := some 111, op := Op.move (Operand.tmp 10), type := 4, pos := "stowageref16.go:316", after := #[], guard := none }) (v := ?_) rfl (by kernel_rfl) (by kernel_rfl) (by kernel_rfl) (fun _ _ _ h => h) (Or.inl ⟨by rfl, ?_⟩) (by assumption) ?_
                    rotate_left
                    · intro w hSw
                      try dsimp only at hSw
                      go_simp
                      all_goals with_reducible rfl
                    all_goals skip
                    try simp only [Act.put, List.setIfInBounds_toArray, List.set_cons_zero, List.set_cons_succ]
                    refine wpAnyH_ready (rs := [6]) (by kernel_rfl) (by simp) ?_
                    refine AllReadyH.cons (o := { dst := some 110, op := Op.call { callee := Callee.value (Operand.func 25), args := #[Operand.tmp 109], argTypes := #[23] }, type := 4, pos := "stowageref16.go:316", after := #[{ on := 5, ground := Ground.data }], guard := none }) rfl (fun K hK => ?_) ?_
                    · go_simp
                      refine Calls.mono (HCl.out _ ((Below.refl _ _).drew)) ?_
                      rintro e w9 ⟨rfl, hb9⟩
                      try go_wp2_with fail
                      have hz9 := HZ8.out.below hb9
                      obtain ⟨h9, n9, hd9⟩ := hz9.dr
                      have hnN := hz9.pw.nb
                      have z1 := hd9.cell 1 rfl
                      have z10 := cell_blk hz9.nm 0
                      have z11 := cell_blk hz9.nm 1
                      have z12 := cell_blk hz9.nm 2
                      have z13 := cell_blk hz9.nm 3
                      simp at z10 z11 z12 z13
                      have d0 := cell_blk hnN 0
                      have g0 := frozen_blk hnN 0
                      have d1 := cell_blk hnN 1
                      have g1 := frozen_blk hnN 1
                      have d2 := cell_blk hnN 2
                      have g2 := frozen_blk hnN 2
                      have d3 := cell_blk hnN 3
                      have g3 := frozen_blk hnN 3
                      have d4 := cell_blk hnN 4
                      have g4 := frozen_blk hnN 4
                      have d5 := cell_blk hnN 5
                      have g5 := frozen_blk hnN 5
                      have d6 := cell_blk hnN 6
                      have g6 := frozen_blk hnN 6
                      have d7 := cell_blk hnN 7
                      have g7 := frozen_blk hnN 7
                      have d8 := cell_blk hnN 8
                      have g8 := frozen_blk hnN 8
                      simp at d0 d1 d2 d3 d4 d5 d6 d7 d8
                      have H9 := (show Hid _ from hz9)
                      clear hz9 hd9 hnN hb9
                      refine hK.out _ _ ?_ (fun hHeld => ?_)
                      · exact ⟨z1, z10, z11, z12, z13⟩
                      clear hK K
                      try simp only [Act.put, List.setIfInBounds_toArray, List.set_cons_zero, List.set_cons_succ]
                      refine wpAnyH_take (i := 8) (oi := { dst := some 112, op := Op.move (Operand.tmp 111), type := 4, pos := "stowageref16.go:316", after := #[{ on := 7, ground := Ground.data }, { on := 6, ground := Ground.chain }], guard := none }) (v := ?_) rfl (by kernel_rfl) (by kernel_rfl) (by kernel_rfl) (fun _ _ _ h => h) (Or.inl ⟨by rfl, ?_⟩) (by assumption) ?_
                      rotate_left
                      · intro w hSw
                        try dsimp only at hSw
                        go_simp
                        all_goals with_reducible rfl
                      all_goals skip
                      try simp only [Act.put, List.setIfInBounds_toArray, List.set_cons_zero, List.set_cons_succ]
                      refine wpAnyH_take (i := 9) (oi := { dst := some 113, op := Op.fieldAddr 25 (Operand.tmp 4) 3, type := 0, pos := "stowageref16.go:316", after := #[{ on := 8, ground := Ground.guard }], guard := some (8, true) }) (v := ?_) rfl (by kernel_rfl) (by kernel_rfl) (by kernel_rfl) (fun _ _ _ h => h) (Or.inl ⟨by rfl, ?_⟩) (by assumption) ?_
                      rotate_left
                      · intro w hSw
                        try dsimp only at hSw
                        go_simp
                        all_goals with_reducible rfl
                      all_goals skip
                      try simp only [Act.put, List.setIfInBounds_toArray, List.set_cons_zero, List.set_cons_succ]
                      refine wpAnyH_take (i := 10) (oi := { dst := some 114, op := Op.load 22 (Operand.tmp 113), type := 22, pos := "stowageref16.go:316", after := #[{ on := 9, ground := Ground.data }, { on := 8, ground := Ground.guard }], guard := some (8, true) }) (v := ?_) rfl (by kernel_rfl) (by kernel_rfl) (by kernel_rfl) (fun _ _ _ h => h) (Or.inl ⟨by rfl, ?_⟩) (by assumption) ?_
                      rotate_left
                      · intro w hSw
                        try dsimp only at hSw
                        go_simp
                        all_goals with_reducible rfl
                      all_goals skip
                      try simp only [Act.put, List.setIfInBounds_toArray, List.set_cons_zero, List.set_cons_succ]
                      refine wpAnyH_take (i := 11) (oi := { dst := some 115, op := Op.call { callee := Callee.builtin Builtin.len, args := #[Operand.tmp 114], argTypes := #[22] }, type := 3, pos := "stowageref16.go:316", after := #[{ on := 10, ground := Ground.data }, { on := 8, ground := Ground.guard }], guard := some (8, true) }) (v := ?_) rfl (by kernel_rfl) (by kernel_rfl) (by kernel_rfl) (fun _ _ _ h => h) (Or.inl ⟨by rfl, ?_⟩) (by assumption) ?_
                      rotate_left
                      · intro w hSw
                        try dsimp only at hSw
                        go_simp
                        all_goals with_reducible rfl
                      all_goals skip
                      try simp only [Act.put, List.setIfInBounds_toArray, List.set_cons_zero, List.set_cons_succ]
                      refine wpAnyH_take (i := 12) (oi := { dst := some 116, op := Op.binOp BinOp.gtr 3 (Operand.tmp 115) (Operand.const (Value.int IntKind.i64 0)) 3, type := 4, pos := "stowageref16.go:316", after := #[{ on := 11, ground := Ground.data }, { on := 8, ground := Ground.guard }], guard := some (8, true) }) (v := ?_) rfl (by kernel_rfl) (by kernel_rfl) (by kernel_rfl) (fun _ _ _ h => h) (Or.inl ⟨by rfl, ?_⟩) (by assumption) ?_
                      rotate_left
                      · intro w hSw
                        try dsimp only at hSw
                        go_simp
                        all_goals with_reducible rfl
                      all_goals skip
                      try simp only [Act.put, List.setIfInBounds_toArray, List.set_cons_zero, List.set_cons_succ]
                      refine wpAnyH_take (i := 13) (oi := { dst := some 117, op := Op.pick (Operand.tmp 112) (Operand.tmp 116) (Operand.const (Value.bool false)), type := 4, pos := "stowageref16.go:316", after := #[{ on := 8, ground := Ground.data }, { on := 12, ground := Ground.data }], guard := none }) (v := ?_) rfl (by kernel_rfl) (by kernel_rfl) (by kernel_rfl) (fun _ _ _ h => h) (Or.inl ⟨by rfl, ?_⟩) (by assumption) ?_
                      rotate_left
                      · intro w hSw
                        try dsimp only at hSw
                        go_simp
                        all_goals with_reducible rfl
                      all_goals skip
                      try simp only [Act.put, List.setIfInBounds_toArray, List.set_cons_zero, List.set_cons_succ]
                      refine wpAnyH_take (i := 14) (oi := { dst := some 118, op := Op.build 34 #[(0, Operand.const (Value.int IntKind.i64 2)), (1, Operand.tmp 107), (2, Operand.tmp 108), (4, Operand.tmp 110), (5, Operand.tmp 117)], type := 34, pos := "stowageref16.go:316", after := #[{ on := 3, ground := Ground.data }, { on := 4, ground := Ground.data }, { on := 6, ground := Ground.data }, { on := 13, ground := Ground.data }], guard := none }) (v := ?_) rfl (by kernel_rfl) (by kernel_rfl) (by kernel_rfl) (fun _ _ _ h => h) (Or.inl ⟨by rfl, ?_⟩) (by assumption) ?_
                      rotate_left
                      · intro w hSw
                        try dsimp only at hSw
                        go_simp
                        all_goals with_reducible rfl
                      all_goals skip
                      try simp only [Act.put, List.setIfInBounds_toArray, List.set_cons_zero, List.set_cons_succ]
                      refine wpAnyH_ready (rs := [15]) (by kernel_rfl) (by simp) ?_
                      refine AllReadyH.cons (o := { dst := none, op := Op.store 34 (Operand.tmp 2) (Operand.tmp 118), type := 0, pos := "stowageref16.go:316", after := #[{ on := 14, ground := Ground.data }, { on := 8, ground := Ground.chain }, { on := 0, ground := Ground.phase }, { on := 1, ground := Ground.phase }, { on := 2, ground := Ground.phase }, { on := 3, ground := Ground.phase }, { on := 4, ground := Ground.phase }, { on := 5, ground := Ground.phase }, { on := 6, ground := Ground.phase }, { on := 7, ground := Ground.phase }, { on := 8, ground := Ground.phase }, { on := 9, ground := Ground.phase }, { on := 10, ground := Ground.phase }, { on := 11, ground := Ground.phase }, { on := 12, ground := Ground.phase }, { on := 13, ground := Ground.phase }, { on := 14, ground := Ground.phase }], guard := none }) rfl (fun K hK => ?_) ?_
                      · go_simp
                        refine hK.out _ _ ?_ (fun hHeld => ?_)
                        · exact ⟨cellN9 _ _ _ _ _ _ _ _ _ z1 HNp.out, cellN9 _ _ _ _ _ _ _ _ _ z10 HMN.out, cellN9 _ _ _ _ _ _ _ _ _ z11 HMN.out, cellN9 _ _ _ _ _ _ _ _ _ z12 HMN.out, cellN9 _ _ _ _ _ _ _ _ _ z13 HMN.out⟩
                        clear hK K
                        try simp only [Act.put, List.setIfInBounds_toArray, List.set_cons_zero, List.set_cons_succ]
                        refine wpAnyH_done (by kernel_rfl) ?_ _
                        clear hHeld
                        go_wp2
                        refine bodyPost_ret (v := .agg #[.int .i64 2, .int .i64 (j : Int), .string ⟨s'.m.toArray⟩, .string ⟨s'.t.toArray⟩, .slice a1 acc.length c1, .slice (some ⟨gb, 0, none⟩) pc.length cp, .int .i64 0, .bool (closeL acc), .bool (decide (0 < pc.length))]) (by simp [results, Tryz.results8, go_sem, d0, d1, d2, d3, d4, d5, d6, d7, d8]) rfl ?_
                        have hT : TbR w9 (w.heap.size + 1) ⟨2, (j : Int), ⟨s'.m.toArray⟩, ⟨s'.t.toArray⟩, .slice a1 acc.length c1, .slice (some ⟨gb, 0, none⟩) pc.length cp, 0, closeL acc, decide (0 < pc.length)⟩ (parseL l) := by
                          rw [HPl.out]
                          exact ⟨_, _, _, _, rfl, H9.out.hs, H9.out.bs, H9.out.hb, H9.out.bb⟩
                        exact ⟨_, rfl, (set9 H9.out.pw HN.out HPp.out hT).1, (set9 H9.out.pw HN.out HPp.out hT).2⟩
                      exact AllReadyH.nil
                    exact AllReadyH.nil
                exact AllReadyH.nil
              exact AllReadyH.nil
        · have HPl := (show Hid (parseL l = .bad (fltL acc)) from HE2.out.1.fin (step2_bad hz))
          have hzb : (fltL acc != 0) = true := by rw [bne_iff_ne]; exact hz
          have HZ := (show Hid (Fail (.bad (fltL acc))) from .inr ⟨_, hz, rfl⟩)
          generalize fltL acc = z at *
          generalize fitL acc = y at *
          clear hz
          go_wp2_with fail
          refine Calls.mono (left_told (w.heap.size + 1) (H4.out.1.md' ((Md.refl (· = p) _).setp 5 (.int .i64 z)) hNp) ⟨_, _, _, false, Dr.of (set_lst H4.out.2.2.1 5 _) rfl⟩ HZ.out) ?_
          clear c0 c1' c5 f1 f5 q2 q3 r2 r3
          rintro e w9 ⟨T9, rfl, hpw9, ht9⟩
          obtain ⟨k9, u9, m9, t9, x1, y1, z1, x2, y2, z2, f9, a9, b9, rfl⟩ := Tl.ex T9 ht9.form
          simp only [Tl.v]
          have hnN := hpw9.nb
          have d0 := cell_blk hnN 0
          have g0 := frozen_blk hnN 0
          have d1 := cell_blk hnN 1
          have g1 := frozen_blk hnN 1
          have d2 := cell_blk hnN 2
          have g2 := frozen_blk hnN 2
          have d3 := cell_blk hnN 3
          have g3 := frozen_blk hnN 3
          have d4 := cell_blk hnN 4
          have g4 := frozen_blk hnN 4
          have d5 := cell_blk hnN 5
          have g5 := frozen_blk hnN 5
          have d6 := cell_blk hnN 6
          have g6 := frozen_blk hnN 6
          have d7 := cell_blk hnN 7
          have g7 := frozen_blk hnN 7
          have d8 := cell_blk hnN 8
          have g8 := frozen_blk hnN 8
          simp at d0 d1 d2 d3 d4 d5 d6 d7 d8
          have H9 := (show Hid _ from And.intro hpw9 ht9)
          clear hnN hpw9 ht9
          go_wp2
          refine bodyPost_ret (v := .agg #[.int .i64 k9, .int .i64 u9, .string m9, .string t9, .slice x1 y1 z1, .slice x2 y2 z2, .int .i64 f9, .bool a9, .bool b9]) (by simp [results, Tryz.results8, go_sem, d0, d1, d2, d3, d4, d5, d6, d7, d8]) rfl ?_
          have h9 := H9.out.2
          rw [← HPl.out] at h9
          exact ⟨_, rfl, (set9 H9.out.1 HN.out HPp.out h9).1, (set9 H9.out.1 HN.out HPp.out h9).2⟩
end Go.Proofs.YtmodmeabjhaklabGreatDoor
