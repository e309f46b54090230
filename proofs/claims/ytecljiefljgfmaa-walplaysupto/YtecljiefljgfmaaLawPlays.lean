/-
  SnapPlays: the walk.
-/
import Derived.Test.YtecljiefljgfmaaRun34
import Derived.Test.YtecljiefljgfmaaRun13
import Derived.Deep.CutRange
import Derived.Deep.CutBlock
import Derived.Deep.RegionWith
import Derived.BigRegion
import Derived.Deep.DeepCutAuto
namespace Go.Proofs.Ytecljiefljgfmaa
open Go.RowKit

/-- A call of the script. -/
structure OpV where
  kd : Int
  a : Int
  b : Int
  ep : Nat
  sa : Option Addr
  st : List UInt8
  sc : Nat
  ka : Option Addr
  keep : List Bool
  kc : Nat

def I64 (x : Int) : Prop := -9223372036854775808 ≤ x ∧ x ≤ 9223372036854775807
/-- What a call of the script keeps to. -/
def OpOk (w : World) (o : OpV) : Prop :=
  Bytes w o.sa o.st ∧ Bools w o.ka o.keep ∧ I64 o.a ∧ o.ep < 18446744073709551616 ∧ o.st.length ≤ o.sc ∧ (o.sa = none → o.sc = 0) ∧ o.st.length ≤ 9223372036854775807

/-- A script that came in. -/
def Scr (w : World) (a : Option Addr) (l : List OpV) : Prop :=
  l = [] ∨ ∃ b off, a = some ⟨b, off, none⟩ ∧ b < w.heap.size ∧ ∀ j (h : j < l.length),
    w.cell? ⟨b, off + j * 6, none⟩ = some (.int .i64 l[j].kd) ∧ w.cell? ⟨b, off + j * 6 + 1, none⟩ = some (.int .i64 l[j].a) ∧ w.cell? ⟨b, off + j * 6 + 2, none⟩ = some (.int .i64 l[j].b) ∧
    w.cell? ⟨b, off + j * 6 + 3, none⟩ = some (.int .u64 (l[j].ep : Int)) ∧ w.cell? ⟨b, off + j * 6 + 4, none⟩ = some (.slice l[j].sa l[j].st.length l[j].sc) ∧ w.cell? ⟨b, off + j * 6 + 5, none⟩ = some (.slice l[j].ka l[j].keep.length l[j].kc) ∧ OpOk w l[j]

theorem Scr.at {w : World} {a : Option Addr} {l : List OpV} (h : Scr w a l) {k : Nat} (hk : k < l.length) : ∃ b off, a = some ⟨b, off, none⟩ ∧ b < w.heap.size ∧ ∀ j (h : j < l.length),
    w.cell? ⟨b, off + j * 6, none⟩ = some (.int .i64 l[j].kd) ∧ w.cell? ⟨b, off + j * 6 + 1, none⟩ = some (.int .i64 l[j].a) ∧ w.cell? ⟨b, off + j * 6 + 2, none⟩ = some (.int .i64 l[j].b) ∧
    w.cell? ⟨b, off + j * 6 + 3, none⟩ = some (.int .u64 (l[j].ep : Int)) ∧ w.cell? ⟨b, off + j * 6 + 4, none⟩ = some (.slice l[j].sa l[j].st.length l[j].sc) ∧ w.cell? ⟨b, off + j * 6 + 5, none⟩ = some (.slice l[j].ka l[j].keep.length l[j].kc) ∧ OpOk w l[j] := by
  rcases h with rfl | h
  · simp at hk
  · exact h

theorem Pair.older {w w0 wr : World} {d r : Nat} {K : Nat → Prop} {M : D} {N : R} (h : Pair w0 wr d r K M N) (hb : Below w.heap.size w w0) : Pair w wr d r K M N := by
  obtain ⟨F, G, h1, h2, h3, h4, h5, h6⟩ := h
  have s := hb.size
  exact ⟨F, G, h1, h2, fun j hj => ⟨Nat.le_trans s (h3 j hj).1, (h3 j hj).2⟩, fun j hj => ⟨Nat.le_trans s (h4 j hj).1, (h4 j hj).2⟩, h5, hb.trans (h6.mono s)⟩
/-- What Load tells, both sides. -/
theorem load_both {w wr : World} {d r : Nat} {K : Nat → Prop} {M : D} {N : R} (h : Pair w wr d r K M N) (hs : Sim M N) (hF : M.Full) (hC : M.C.length ≤ 5000) (p n : Int) (hp : I64 p) (hn : I64 n) : ∃ (st : List UInt8) (ep : Nat) (ev : Int) (f : Bool),
    (Calls Try.prog 33 #[.pointer (some ⟨d, 0, none⟩), .int .i64 p, .int .i64 n] wr fun e w' => ∃ a c, e = .returned (.tuple #[.slice a st.length c, .int .u64 (ep : Int), .int .i64 ev]) ∧ Bytes w' a st ∧ Below wr.heap.size wr w') ∧
    ∀ w1, Below wr.heap.size wr w1 → Calls Try.prog 34 #[.pointer (some ⟨r, 0, none⟩), .int .i64 p, .int .i64 n] w1 fun e w' => ∃ a c, e = .returned (.tuple #[.agg #[.bool f, .int .u64 (ep : Int), .slice a st.length c], .int .i64 ev]) ∧ Bytes w' a st ∧ Below w1.heap.size w1 w' := by
  have hNL : N.L.length = M.L.length := by rw [hs.l]
  have hNW : N.W.length = M.C.length := by rw [hs.c]
  have h0 := h
  obtain ⟨F, G, g1, _⟩ := h0
  cases hr : regB M.L.length p n with
  | false =>
    refine ⟨[], 0, 1, false, ?_, ?_⟩
    · refine (load_arg d p n wr F M g1 hn.2 hr).mono ?_
      rintro e w' ⟨rfl, rfl⟩
      exact ⟨none, 0, rfl, .inl rfl, Below.refl _ _⟩
    · intro w1 h1
      refine (rload_no (h.below h1) hs (by omega) p n hn.2 hp.2 hp.1 1 (.inl ⟨by rw [hNL]; exact hr, rfl⟩)).mono ?_
      rintro e w' ⟨rfl, hb1⟩
      exact ⟨none, 0, rfl, .inl rfl, hb1⟩
  | true =>
    have hrb := hr
    simp only [regB, decide_eq_true_eq] at hrb
    obtain ⟨p, rfl⟩ : ∃ k : Nat, p = (k : Int) := ⟨p.toNat, by omega⟩
    obtain ⟨n, rfl⟩ : ∃ k : Nat, n = (k : Int) := ⟨n.toNat, by omega⟩
    by_cases hst : M.st = 2
    · refine ⟨[], 0, 50, false, ?_, ?_⟩
      · refine (load_dead d p n wr F M g1 hst (by omega) (by omega)).mono ?_
        rintro e w' ⟨rfl, hb1⟩
        exact ⟨none, 0, rfl, .inl rfl, hb1⟩
      · intro w1 h1
        refine (rload_no (h.below h1) hs (by omega) p n hn.2 hp.2 hp.1 50 (.inr ⟨by rw [hNL]; exact hr, hst, rfl⟩)).mono ?_
        rintro e w' ⟨rfl, hb1⟩
        exact ⟨none, 0, rfl, .inl rfl, hb1⟩
    · have hc := load_any d p n wr F M g1 hst (hF.s hs) (by omega) (by omega)
      have hd : ∀ w1, Below wr.heap.size wr w1 → _ := fun w1 (h1 : Below wr.heap.size wr w1) => rload_ok (h.below h1) hs hst (hF.s hs) (by omega) p n (by rw [hNL]; exact hr)
      rcases hq : loadF M.S p n with _ | x
      · rw [hq] at hc hd
        refine ⟨[], 0, 61, false, hc.mono ?_, fun w1 h1 => (hd w1 h1).mono ?_⟩
        · rintro e w' ⟨rfl, hb1⟩
          exact ⟨none, 0, rfl, .inl rfl, hb1⟩
        · rintro e w' ⟨rfl, hb1⟩
          exact ⟨none, 0, rfl, .inl rfl, hb1⟩
      · rw [hq] at hc hd
        refine ⟨x.2, x.1, 0, true, hc.mono ?_, fun w1 h1 => (hd w1 h1).mono ?_⟩
        · rintro e w' ⟨⟨a, c, rfl, hby, _⟩, hb1⟩
          exact ⟨a, c, rfl, hby, hb1⟩
        · rintro e w' ⟨⟨a, c, rfl, hby⟩, hb1⟩
          exact ⟨a, c, rfl, hby, hb1⟩
/-- What the round knows. -/
structure Inv (w wr : World) (n k d r : Nat) (M : D) (N : R) : Prop where
  pair : Pair w wr d r (fun _ => False) M N
  sim : Sim M N
  len : M.L.length = n
  top : M.C.length ≤ 60 * k
  full : M.Full

set_option maxHeartbeats 8000000 in
set_option maxRecDepth 20000 in
theorem plays_walk (n p q : Int) (a : Option Addr) (l : List OpV) (cap : Nat) (w : World) (_hn0 : I64 n) (hp0 : I64 p) (hq0 : I64 q) (hb : Scr w a l) :
    Calls Try.prog 7 #[.int .i64 n, .int .i64 p, .int .i64 q, .slice a l.length cap] w fun e w' => e = .returned (.bool true) ∧ Below w.heap.size w w' := by
  by_cases hn : 1 ≤ n ∧ n ≤ 40
  · obtain ⟨n1, n2⟩ := hn
    obtain ⟨m, rfl⟩ := Int.eq_ofNat_of_zero_le (by omega : 0 ≤ n)
    have haw := awakeS_any w
    have HB : Hid (Scr w a l) := hb
    have HPQ : Hid (I64 p ∧ I64 q) := ⟨hp0, hq0⟩
    have hn1 : ¬ (m : Int) < 1 := by omega
    have hn2 : ¬ (40 : Int) < (m : Int) := by omega
    clear hb hp0 hq0
    go_enter Try.func7, Try.ntmps7
    go_wp2_with (go_at_call 30; refine Calls.mono haw ?_; rintro e w0 ⟨rfl, hb0⟩; have hnew := new_ok m w0 (by omega) (by omega))
    refine Calls.mono hnew ?_
    rintro e w1 ⟨d, rfl, hD1, hb1⟩
    clear hnew haw
    have HD1 : Hid (Dev w1 (fun k => w0.heap.size ≤ k ∧ k < w1.heap.size) d (D.new m blank) ∧ Below w0.heap.size w0 w1 ∧ Below w.heap.size w w0) := ⟨hD1, hb1, hb0⟩
    clear hD1 hb1 hb0
    have hrn := refnew_ok m w1 (by omega) (by omega)
    go_wp2_with fail
    refine Calls.mono hrn ?_
    rintro e w2 ⟨r, rfl, hR2, hb2⟩
    have hI2 : Inv w w2 m 0 d r (D.new m blank) (R.new m blank) := ⟨(pair_make HD1.out.1 HD1.out.2.1 hR2 hb2).older HD1.out.2.2, sim_new m blank, by simp [D.new], by simp [D.new], D.Full.new m⟩
    have HI2 := (show Hid _ from hI2)
    clear hrn hR2 hb2 HD1 hI2
    go_wp2
    go_loopw [13] (fun i wr => ∃ k : Nat, k ≤ l.length ∧ k ≤ 40 ∧ i = .int .i64 k ∧ ∃ M N, Inv w wr m k d r M N)
      (fun i _ => 40 - (intOf i).toNat)
    case atStart => exact ⟨0, Nat.zero_le _, by omega, rfl, _, _, HI2.out⟩
    case round =>
      obtain ⟨k, hk, hk80, rfl, M, N, hI⟩ := hrel
      clear HI2
      by_cases hlt : k < l.length ∧ k < 40
      · obtain ⟨hlt, h80⟩ := hlt
        obtain ⟨b, off, rfl, hbl, hcs⟩ := HB.out.at hlt
        obtain ⟨q0, q1, q2, q3, q4, q5, q6⟩ := hcs k hlt
        obtain ⟨o, ho⟩ : ∃ o, o = l[k] := ⟨_, rfl⟩
        rw [← ho] at q0 q1 q2 q3 q4 q5 q6
        have hold := hI.pair.old
        have x0 := (hold.cell (p := ⟨b, off + k * 6, none⟩) hbl).trans q0
        have x1 := (hold.cell (p := ⟨b, off + k * 6 + 1, none⟩) hbl).trans q1
        have x2 := (hold.cell (p := ⟨b, off + k * 6 + 2, none⟩) hbl).trans q2
        have x3 := (hold.cell (p := ⟨b, off + k * 6 + 3, none⟩) hbl).trans q3
        have x4 := (hold.cell (p := ⟨b, off + k * 6 + 4, none⟩) hbl).trans q4
        have x5 := (hold.cell (p := ⟨b, off + k * 6 + 5, none⟩) hbl).trans q5
        have hki : (k : Int) < (l.length : Int) := by omega
        have h80i : (k : Int) < 40 := by omega
        have HQ : Hid (OpOk w o) := q6
        have HI : Hid (Inv w wr m k d r M N) := hI
        clear q0 q1 q2 q3 q4 q5 q6 hcs hI hold ho
        go_upto_block 2 with fail
        obtain ⟨W, hW⟩ : ∃ W, W = wr.alloc (.cells #[.int .i64 o.kd, .int .i64 o.a, .int .i64 o.b, .int .u64 (o.ep : Int), .slice o.sa o.st.length o.sc, .slice o.ka o.keep.length o.kc] 67) := ⟨_, rfl⟩
        rw [← hW]
        have hX : W.heap[wr.heap.size]? = some (.cells #[.int .i64 o.kd, .int .i64 o.a, .int .i64 o.b, .int .u64 (o.ep : Int), .slice o.sa o.st.length o.sc, .slice o.ka o.keep.length o.kc] 67 (0, 0)) := by rw [hW]; exact heap_alloc_new wr _
        have hsz : W.heap.size = wr.heap.size + 1 := by rw [hW]; simp
        have hwX : w.heap.size ≤ wr.heap.size := HI.out.pair.old.size
        have hP : Pair w W d r (fun j => j = wr.heap.size) M N := HI.out.pair.wider (by rw [hW]; exact (Below.refl _ _).alloc (Nat.le_refl _) _) (fun j hj => .inr ⟨by omega, by omega⟩)
        have HP : Hid (Pair w W d r (fun j => j = wr.heap.size) M N) := hP
        have HX : Hid (W.heap[wr.heap.size]? = some (.cells #[.int .i64 o.kd, .int .i64 o.a, .int .i64 o.b, .int .u64 (o.ep : Int), .slice o.sa o.st.length o.sc, .slice o.ka o.keep.length o.kc] 67 (0, 0))) := hX
        have HS : Hid (Sim M N ∧ M.L.length = m ∧ M.C.length ≤ 60 * k ∧ M.Ok ∧ M.Full) := ⟨HI.out.sim, HI.out.len, HI.out.top, HI.out.pair.ok, HI.out.full⟩
        have y1 := cell_blk hX 1
        have y2 := cell_blk hX 2
        have y3 := cell_blk hX 3
        have y4 := cell_blk hX 4
        have y5 := cell_blk hX 5
        simp only [List.getElem?_toArray] at y1 y2 y3 y4 y5
        obtain ⟨kd, hkd⟩ : ∃ kd, kd = o.kd := ⟨_, rfl⟩
        rw [← hkd]
        clear x0 x1 x2 x3 x4 x5 hX hP hW HI hkd
        go_cut [15] (fun okv wc => okv = .bool true ∧ ∃ M N, Inv w wc m (k + 1) d r M N)
        case first =>
          by_cases k0 : kd = 0
          · as_aux_lemma =>
              subst k0
              have hPd : Pair w W.drew d r (fun j => j = wr.heap.size) M N := HP.out.below (Below.refl _ _).drew
              obtain ⟨v, M', N', z1, z2, z3, z4, hsv, hrs⟩ := save_both hPd HS.out.1 HS.out.2.2.2.2 (by rw [HS.out.2.1]; omega) (by have := HS.out.2.2.1; omega) p q o.ep o.sa o.st o.sc HPQ.out.1 HPQ.out.2.2 HQ.out.2.2.2.1 HQ.out.1 HQ.out.2.2.2.2.1 HQ.out.2.2.2.2.2.1 HQ.out.2.2.2.2.2.2
              have HSV := (show Hid _ from hsv)
              have HRS := (show Hid _ from hrs)
              have HZ : Hid (Sim M' N' ∧ M'.L.length = m ∧ M'.C.length ≤ 60 * (k + 1) ∧ M'.Full) := ⟨z1, z3.trans HS.out.2.1, by have := HS.out.2.2.1; omega, z2⟩
              have hvv : (v == v) = true := by simp
              have HF : Hid (∀ w5 : World, (∀ j, j = wr.heap.size → w5.heap[j]? = W.heap[j]?) → w5.cell? ⟨wr.heap.size, 3, none⟩ = some (.int .u64 (o.ep : Int)) ∧ w5.cell? ⟨wr.heap.size, 4, none⟩ = some (.slice o.sa o.st.length o.sc)) := by
                intro w5 h5
                have hb5 := (h5 wr.heap.size rfl).trans HX.out
                exact ⟨cell_blk hb5 3, cell_blk hb5 4⟩
              have i0 := (HF.out W (fun _ _ => rfl)).1
              have i1 := (HF.out W (fun _ _ => rfl)).2
              have i2 := (HF.out W.drew (fun _ _ => rfl)).1
              have i3 := (HF.out W.drew (fun _ _ => rfl)).2
              clear hPd z1 z2 z3 z4 hsv hrs y1 y2 y3 y4 y5
              go_wp2
              go_region_held3 (fun w' => w'.cell? ⟨wr.heap.size, 3, none⟩ = some (.int .u64 (o.ep : Int)) ∧ w'.cell? ⟨wr.heap.size, 4, none⟩ = some (.slice o.sa o.st.length o.sc)) (go_keep)
                (first
                  | (go_at_call 31; refine Calls.mono HSV.out ?_; rintro e w5 ⟨rfl, hP5, hk5⟩; have s0 := (HF.out w5 hk5).1; have s1 := (HF.out w5 hk5).2)
                  | (go_at_call 32; refine Calls.mono (HRS.out _ hP5) ?_; rintro e w6 ⟨rfl, hP6, hk6⟩; have s2 := (HF.out w6 (fun j hj => (hk6 j hj).trans (hk5 j hj))).1; have s3 := (HF.out w6 (fun j hj => (hk6 j hj).trans (hk5 j hj))).2))
              have HP6 : Hid (Pair w w6 d r (fun j => j = wr.heap.size) M' N') := hP6
              clear hP5 hk5 hP6 hk6 s0 s1 s2 s3 i0 i1 i2 i3 HF HRS HSV
              go_wp2
              go_meet
              case rel => exact ⟨rfl, M', N', HP6.out.less (fun j hj => hj.elim), HZ.out.1, HZ.out.2.1, HZ.out.2.2.1, HZ.out.2.2.2⟩
          by_cases k1 : kd = 1
          · as_aux_lemma =>
              subst k1
              clear k0
              obtain ⟨st, ep, ev, f, hlc, hrl⟩ := load_both HP.out HS.out.1 HS.out.2.2.2.2 (by have := HS.out.2.2.1; omega) p q HPQ.out.1 HPQ.out.2
              have HRL := (show Hid _ from hrl)
              clear hrl
              go_wp2_with fail
              refine Calls.mono hlc ?_
              rintro e w4 ⟨a4, c4, rfl, hby4, hb4⟩
              have hrl := HRL.out w4 hb4
              have HB4 : Hid (Below W.heap.size W w4) := hb4
              clear hlc HRL hb4
              go_wp2_with fail
              refine Calls.mono hrl ?_
              rintro e w5 ⟨a5, c5, rfl, hby5, hb5⟩
              have HB5 : Hid (Below w4.heap.size w4 w5 ∧ Bytes w5 a4 st ∧ Bytes w5 a5 st) := ⟨hb5, hby4.below hb5 (Nat.le_refl _), hby5⟩
              clear hrl hby4 hby5 hb5
              go_upto_region 16 with fail
              obtain ⟨w6, hw6⟩ : ∃ w6, w6 = w5.alloc (.cells #[.bool f, .int .u64 (ep : Int), .slice a5 st.length c5] 73) := ⟨_, rfl⟩
              rw [← hw6]
              have hX6 : w6.heap[w5.heap.size]? = some (.cells #[.bool f, .int .u64 (ep : Int), .slice a5 st.length c5] 73 (0, 0)) := by rw [hw6]; exact heap_alloc_new w5 _
              have hb6 : Below w5.heap.size w5 w6 := by rw [hw6]; exact (Below.refl _ _).alloc (Nat.le_refl _) _
              have z1 := cell_blk hX6 1
              have z2 := cell_blk hX6 2
              simp only [List.getElem?_toArray] at z1 z2
              have cv1 := convert_bytes w6 a4 c4 st (HB5.out.2.1.below hb6 (Nat.le_refl _))
              have cv2 := convert_bytes w6 a5 c5 st (HB5.out.2.2.below hb6 (Nat.le_refl _))
              obtain ⟨s, hs⟩ : ∃ s : ByteArray, s = ⟨st.toArray⟩ := ⟨_, rfl⟩
              rw [← hs] at cv1 cv2
              have hss : (s.toList == s.toList) = true := by simp
              have hee : ((ep : Int) == (ep : Int)) = true := by simp
              have hvv : (ev == ev) = true := by simp
              have HP6 : Hid (Pair w w6 d r (fun j => j = wr.heap.size) M N) := ((HP.out.below HB4.out).below HB5.out.1).below hb6
              clear hw6 hX6 hb6 hs y1 y2 y3 y4 y5 HB4 HB5
              go_wp2
              go_meet
              case rel => exact ⟨rfl, M, N, HP6.out.less (fun j hj => hj.elim), HS.out.1, HS.out.2.1, by have := HS.out.2.2.1; omega, HS.out.2.2.2.2⟩
          by_cases k2 : kd = 2
          · as_aux_lemma =>
              subst k2
              clear k0 k1
              have hcr := p_crash (cap := o.kc) HP.out HQ.out.2.1 (by have := HS.out.2.2.1; omega)
              go_wp2_with fail
              refine Calls.mono hcr ?_
              rintro e w4 ⟨rfl, hP4, hk4⟩
              have hb4 := (hk4 wr.heap.size rfl).trans HX.out
              have y5 := cell_blk hb4 5
              simp only [List.getElem?_toArray] at y5
              have hrc := p_rcrash (cap := o.kc) hP4 HQ.out.2.1 (by rw [HS.out.1.c]; have := HS.out.2.2.1; omega)
              clear hcr hk4 hP4 hb4
              go_wp2_with fail
              refine Calls.mono hrc ?_
              rintro e w5 ⟨rfl, hP5, hk5⟩
              have HP5 : Hid (Pair w w5 d r (fun j => j = wr.heap.size) (M.crash o.keep) (N.crash o.keep)) := hP5
              clear hrc hk5 hP5
              go_wp2
              go_meet
              case rel => exact ⟨rfl, _, _, HP5.out.less (fun j hj => hj.elim), sim_crash HS.out.1 _, by show (app _ _).length = m; rw [app_length]; exact HS.out.2.1, by show ([] : List (Nat × ByteArray)).length ≤ _; simp, HS.out.2.2.2.2.crash _⟩
          by_cases k3 : kd = 3
          · as_aux_lemma =>
              subst k3
              clear k0 k1 k2
              have hfu := p_fuse o.a HP.out HQ.out.2.2.1.2
              go_wp2_with fail
              refine Calls.mono hfu ?_
              rintro e w4 ⟨rfl, hP4, hk4⟩
              have hb4 := (hk4 wr.heap.size rfl).trans HX.out
              have y1 := cell_blk hb4 1
              simp only [List.getElem?_toArray] at y1
              obtain ⟨hP5, t1, t2⟩ := p_rfuse o.a hP4 HQ.out.2.2.1.2
              have HP5 : Hid (Pair w (w4.setCell ⟨r, 2, none⟩ (.int .i64 (max o.a (-1)))) d r (fun j => j = wr.heap.size) (M.fuse o.a) (N.fuse o.a)) := hP5
              clear hfu hk4 hP4 hb4 hP5
              go_wp2
              go_meet
              case rel => exact ⟨rfl, _, _, HP5.out.less (fun j hj => hj.elim), sim_fuse HS.out.1 _, (fuse_len M o.a).1.trans HS.out.2.1, by have := (fuse_len M o.a).2; have := HS.out.2.2.1; omega, HS.out.2.2.2.2.fuse _⟩
          by_cases k4 : kd = 4
          · as_aux_lemma =>
              subst k4
              clear k0 k1 k2 k3
              have hse := sector_any o.a o.b W
              go_wp2_with fail
              refine Calls.mono hse ?_
              rintro e w4 ⟨rfl, ho4, hb4⟩
              have hlt4 : W.heap.size < w4.heap.size := (owns_lt ho4 _ rfl).2
              have HO4 := (show Hid (w4.ownsRow W.heap.size 5 1 (.slice (some ⟨W.heap.size, 0, none⟩) 256 256) 256 (bcs (sec o.a o.b))) from ho4)
              obtain ⟨g, hg⟩ : ∃ g, g = W.heap.size := ⟨_, rfl⟩
              obtain ⟨y, hy⟩ : ∃ y : ByteArray, y = ⟨(sec o.a o.b).toArray⟩ := ⟨_, rfl⟩
              rw [← hg] at HO4 hlt4 ⊢
              have hP4 : Pair w w4 d r (fun j => j = wr.heap.size ∨ j = g) M N := HP.out.wider (K' := fun j => j = wr.heap.size ∨ j = g) hb4 (fun j hj => by rcases hj with hj | hj; exact .inl hj; exact .inr ⟨by omega, by omega⟩)
              have hX4 : w4.heap[wr.heap.size]? = _ := (hb4.block wr.heap.size (by omega)).trans HX.out
              have hw11 := p_write (cap := 256) o.a hP4 (.inr rfl) (l := sec o.a o.b) (own_bytes (w := w4) HO4.out) (by have := HS.out.2.2.1; omega)
              rw [sec_length, ← hy] at hw11
              obtain ⟨z1, z2⟩ := sim_wr HS.out.1 HS.out.2.2.2.1 o.a y
              have z3 := wr_len M o.a y
              obtain ⟨v, hv⟩ : ∃ v, v = (M.wr o.a y).1 := ⟨_, rfl⟩
              rw [← hv] at hw11 z1
              obtain ⟨M', hM'⟩ : ∃ M', M' = (M.wr o.a y).2 := ⟨_, rfl⟩
              obtain ⟨N', hN'⟩ : ∃ N', N' = (N.wr o.a y).2 := ⟨_, rfl⟩
              rw [← hM'] at hw11 z2 z3
              rw [← hN'] at z2
              have HF : Hid (∀ w5 : World, (∀ j, (j = wr.heap.size ∨ j = g) → w5.heap[j]? = w4.heap[j]?) → w5.cell? ⟨wr.heap.size, 1, none⟩ = some (.int .i64 o.a) ∧ (convert 50 9 (.slice (some ⟨g, 0, none⟩) 256 256)).run Try.prog w5 = .ok (.string y) w5) := by
                intro w5 h5
                have hb5 := (h5 wr.heap.size (.inl rfl)).trans hX4
                have ho5 : w5.ownsRow g 5 1 (.slice (some ⟨g, 0, none⟩) 256 256) 256 (bcs (sec o.a o.b)) := owns_other (owns_base HO4.out fun j hj => by simp [Value.ownBlock] at hj; omega) fun j hj => by
                  obtain rfl : g = j := by simpa [Value.ownBlock] using hj
                  exact h5 g (.inr rfl)
                have hcv := convert_bytes w5 (some ⟨g, 0, none⟩) 256 (sec o.a o.b) (own_bytes ho5)
                rw [sec_length, ← hy] at hcv
                exact ⟨cell_blk hb5 1, hcv⟩
              have HR17 : Hid (∀ w5, Pair w w5 d r (fun j => j = wr.heap.size ∨ j = g) M' N → Calls Try.prog 22 #[.pointer (some ⟨r, 0, none⟩), .int .i64 o.a, .string y] w5 fun e w6 => e = .returned (.int .i64 v) ∧ Pair w w6 d r (fun j => j = wr.heap.size ∨ j = g) M' N' ∧ ∀ j, (j = wr.heap.size ∨ j = g) → w6.heap[j]? = w5.heap[j]?) := by
                intro w5 h5
                have := p_rwrite o.a y h5 (by rw [HS.out.1.c]; have := HS.out.2.2.1; omega)
                rw [← z1, ← hN'] at this
                exact this
              have HZ : Hid (Sim M' N' ∧ M'.L.length = m ∧ M'.C.length ≤ 60 * (k + 1) ∧ M'.Full) := ⟨z2, z3.1.trans HS.out.2.1, by have := HS.out.2.2.1; omega, by rw [hM']; exact HS.out.2.2.2.2.wr _ _⟩
              have i0 := (HF.out w4 (fun _ _ => rfl)).1
              clear hse ho4 hb4 hP4 hX4 z1 z2 z3 hv hM' hN' hy hg y2 y3 y4 y5 y1
              go_wp2_with fail
              refine Calls.mono hw11 ?_
              rintro e w5 ⟨rfl, hP5, hk5⟩
              have s0 := (HF.out w5 hk5).1
              have s1 := (HF.out w5 hk5).2
              have hr17 := HR17.out w5 hP5
              clear hw11 hP5 hk5 i0
              go_wp2_with fail
              refine Calls.mono hr17 ?_
              rintro e w6 ⟨rfl, hP6, hk6⟩
              have HP6 : Hid (Pair w w6 d r (fun j => j = wr.heap.size ∨ j = g) M' N') := hP6
              clear hP6 hk6 s0 s1 HF HR17 hr17 HO4
              go_wp2
              go_meet
              case rel => exact ⟨rfl, M', N', HP6.out.less (fun j hj => hj.elim), HZ.out.1, HZ.out.2.1, HZ.out.2.2.1, HZ.out.2.2.2⟩
          have b0 : (kd == 0) = false := by rw [beq_eq_false_iff_ne]; exact k0
          have b1 : (kd == 1) = false := by rw [beq_eq_false_iff_ne]; exact k1
          have b2 : (kd == 2) = false := by rw [beq_eq_false_iff_ne]; exact k2
          have b3 : (kd == 3) = false := by rw [beq_eq_false_iff_ne]; exact k3
          have b4 : (kd == 4) = false := by rw [beq_eq_false_iff_ne]; exact k4
          clear k0 k1 k2 k3 k4
          go_wp2
          go_meet
          case rel => exact ⟨rfl, M, N, HP.out.less (fun j hj => hj.elim), HS.out.1, HS.out.2.1, by have := HS.out.2.2.1; omega, HS.out.2.2.2.2⟩
        case rest =>
          obtain ⟨rfl, M, N, hI⟩ := hcut
          have hsm := same_any hI.pair hI.sim (by have := hI.top; omega)
          have HI : Hid (Inv w wc m (k + 1) d r M N) := hI
          clear hI HP HX HS HQ y1 y2 y3 y4 y5
          go_wp2_with (go_at_call 28; refine Calls.mono hsm ?_; rintro e w5 ⟨rfl, hb5⟩)
          have HB5 : Hid (Below wc.heap.size wc w5) := hb5
          clear hb5 hsm
          go_roundw
          case rel => exact ⟨k + 1, by omega, by omega, by go_num, M, N, HI.out.pair.below HB5.out, HI.out.sim, HI.out.len, HI.out.top, HI.out.full⟩
          case measure => simp [intOf]; omega
      · have HLT := (show Hid (¬ (k < l.length ∧ k < 40)) from hlt)
        have HOLD : Hid (Below w.heap.size w wr) := hI.pair.old
        clear hI hlt
        by_cases hc : k < l.length
        · have hc1 : (k : Int) < (l.length : Int) := by omega
          have hc2 : ¬ (k : Int) < 40 := by have := HLT.out; omega
          go_wp2
          go_ret
          exact ⟨rfl, HOLD.out⟩
        · have hc1 : ¬ (k : Int) < (l.length : Int) := by omega
          go_wp2
          go_ret
          exact ⟨rfl, HOLD.out⟩
  · have hnb : n < 1 ∨ 40 < n := by omega
    have haw := awakeS_any w
    clear hb hp0 hq0 hn
    rcases hnb with h1 | h1
    · go_enter Try.func7, Try.ntmps7
      go_wp2_with (go_at_call 30; refine Calls.mono haw ?_; rintro e w1 ⟨rfl, hb1⟩)
      go_ret
      exact ⟨rfl, hb1⟩
    · have h2 : ¬ n < 1 := by omega
      go_enter Try.func7, Try.ntmps7
      go_wp2_with (go_at_call 30; refine Calls.mono haw ?_; rintro e w1 ⟨rfl, hb1⟩)
      go_ret
      exact ⟨rfl, hb1⟩
end Go.Proofs.Ytecljiefljgfmaa
