/-
  WalPlays: the walk.
-/
import Derived.Test.YtecljiefljgfmaaRun34
import Derived.Test.YtecljiefljgfmaaLawPlays
import Derived.Test.YtecljiefljgfmaaRun37
import Derived.Test.YtecljiefljgfmaaRun36
namespace Go.Proofs.Ytecljiefljgfmaa
open Go.RowKit

/-- A call of the script. -/
structure OpW where
  kd : Int
  a : Int
  b : Int
  sa : Option Addr
  L : List ByteArray
  sc : Nat
  ka : Option Addr
  keep : List Bool
  kc : Nat

/-- What a call of the script keeps to. -/
def OpWOk (w : World) (o : OpW) : Prop := Strs w o.sa o.L ∧ Bools w o.ka o.keep ∧ I64 o.a ∧ tot o.L ≤ 8388608

/-- A script that came in. -/
def ScrW (w : World) (a : Option Addr) (l : List OpW) : Prop :=
  l = [] ∨ ∃ b off, a = some ⟨b, off, none⟩ ∧ b < w.heap.size ∧ ∀ j (h : j < l.length),
    w.cell? ⟨b, off + j * 5, none⟩ = some (.int .i64 l[j].kd) ∧ w.cell? ⟨b, off + j * 5 + 1, none⟩ = some (.int .i64 l[j].a) ∧ w.cell? ⟨b, off + j * 5 + 2, none⟩ = some (.int .i64 l[j].b) ∧
    w.cell? ⟨b, off + j * 5 + 3, none⟩ = some (.slice l[j].sa l[j].L.length l[j].sc) ∧ w.cell? ⟨b, off + j * 5 + 4, none⟩ = some (.slice l[j].ka l[j].keep.length l[j].kc) ∧ OpWOk w l[j]

theorem ScrW.at {w : World} {a : Option Addr} {l : List OpW} (h : ScrW w a l) {k : Nat} (hk : k < l.length) : ∃ b off, a = some ⟨b, off, none⟩ ∧ b < w.heap.size ∧ ∀ j (h : j < l.length),
    w.cell? ⟨b, off + j * 5, none⟩ = some (.int .i64 l[j].kd) ∧ w.cell? ⟨b, off + j * 5 + 1, none⟩ = some (.int .i64 l[j].a) ∧ w.cell? ⟨b, off + j * 5 + 2, none⟩ = some (.int .i64 l[j].b) ∧
    w.cell? ⟨b, off + j * 5 + 3, none⟩ = some (.slice l[j].sa l[j].L.length l[j].sc) ∧ w.cell? ⟨b, off + j * 5 + 4, none⟩ = some (.slice l[j].ka l[j].keep.length l[j].kc) ∧ OpWOk w l[j] := by
  rcases h with rfl | h
  · simp at hk
  · exact h

/-- Two logs side by side. -/
structure Two (w wc : World) (d r l m : Nat) (g : G) (pn nn : Nat) (K : Nat → Prop) (M : D) (N : R) : Prop where
  on : g.On pn nn
  log : LogV wc l d g
  rlog : RLogG wc m r pn nn g
  wl : w.heap.size ≤ l
  wm : w.heap.size ≤ m
  ne : l ≠ m
  kl : K l
  km : K m
  pair : Pair w wc d r K M N

/-- Where the two sides stand: no log, or two. -/
inductive Stand (w wc : World) (d r s : Nat) (p n : Int) (M : D) (N : R) : Value → Value → Prop
  | no (h : Pair w wc d r (fun _ => False) M N) : Stand w wc d r s p n M N (.pointer none) (.pointer none)
  | two (l m : Nat) (g : G) (pn nn : Nat) (hp : p = (pn : Int)) (hn : n = (nn : Int)) (hs : pn + nn ≤ s) (h : Two w wc d r l m g pn nn (fun j => j = l ∨ j = m) M N) : Stand w wc d r s p n M N (.pointer (some ⟨l, 0, none⟩)) (.pointer (some ⟨m, 0, none⟩))

/-- What the round knows. -/
structure WI (w wc : World) (s k d r : Nat) (p n : Int) (M : D) (N : R) (lv mv : Value) : Prop where
  sim : Sim M N
  len : M.L.length = s
  top : M.C.length ≤ 70 * k
  full : M.Full
  stand : Stand w wc d r s p n M N lv mv
theorem WI.old {w wc : World} {s k d r : Nat} {p n : Int} {M : D} {N : R} {lv mv : Value} (h : WI w wc s k d r p n M N lv mv) : Below w.heap.size w wc := by
  cases h.stand with
  | no hq => exact hq.old
  | two l m g pn nn hp hn hs hq => exact hq.pair.old
theorem Two.below {w wc w' : World} {d r l m : Nat} {g : G} {pn nn : Nat} {K : Nat → Prop} {M : D} {N : R} (h : Two w wc d r l m g pn nn K M N) (hb : Below wc.heap.size wc w') : Two w w' d r l m g pn nn K M N := by
  have h0 := h.pair
  obtain ⟨F, G, _, _, _, _, h5, _⟩ := h0
  exact ⟨h.on, (hb.block l (h5 l h.kl)).trans h.log, (hb.block m (h5 m h.km)).trans h.rlog, h.wl, h.wm, h.ne, h.kl, h.km, h.pair.below hb⟩
theorem WI.below {w wc w' : World} {s k d r : Nat} {p n : Int} {M : D} {N : R} {lv mv : Value} (h : WI w wc s k d r p n M N lv mv) (hb : Below wc.heap.size wc w') : WI w w' s k d r p n M N lv mv := by
  refine ⟨h.sim, h.len, h.top, h.full, ?_⟩
  cases h.stand with
  | no hq => exact .no (hq.below hb)
  | two l m g pn nn hp hn hs hq => exact .two l m g pn nn hp hn hs (hq.below hb)
/-- The two sides once more, with other devices. -/
theorem Two.with {w wc w' : World} {d r l m : Nat} {g : G} {pn nn : Nat} {K : Nat → Prop} {M M' : D} {N N' : R} (h : Two w wc d r l m g pn nn K M N) (hp : Pair w w' d r K M' N') (hk : ∀ j, K j → w'.heap[j]? = wc.heap[j]?) : Two w w' d r l m g pn nn K M' N' :=
  ⟨h.on, (hk l h.kl).trans h.log, (hk m h.km).trans h.rlog, h.wl, h.wm, h.ne, h.kl, h.km, hp⟩
theorem Two.less {w wc : World} {d r l m : Nat} {g : G} {pn nn : Nat} {K : Nat → Prop} {M : D} {N : R} (h : Two w wc d r l m g pn nn K M N) : Two w wc d r l m g pn nn (fun j => j = l ∨ j = m) M N :=
  ⟨h.on, h.log, h.rlog, h.wl, h.wm, h.ne, .inl rfl, .inr rfl, h.pair.less (fun j hj => by rcases hj with rfl | rfl; exact h.kl; exact h.km)⟩

/-- Open on both sides, and the law's comparison. -/
theorem open_stand {w wr : World} {d r s k : Nat} {M : D} {N : R} (h : Pair w wr d r (fun _ => False) M N) (hs : Sim M N) (hF : M.Full) (hl : M.L.length = s) (hC : M.C.length ≤ 70 * k) (hk : k ≤ 41) (p n : Int) (ep : Nat) (hp : I64 p) (hn : I64 n) (hep : ep < 18446744073709551616) :
    ∃ ev : Int, Calls Try.prog 12 #[.pointer (some ⟨d, 0, none⟩), .int .i64 p, .int .i64 n, .int .u64 (ep : Int)] wr fun e w1 => ∃ lv a n1 c1, e = .returned (.tuple #[lv, .slice a n1 c1, .int .i64 ev]) ∧
      Calls Try.prog 13 #[.pointer (some ⟨r, 0, none⟩), .int .i64 p, .int .i64 n, .int .u64 (ep : Int)] w1 fun e w2 => ∃ mv a' n2 c2, e = .returned (.tuple #[mv, .slice a' n2 c2, .int .i64 ev]) ∧ ((lv = .pointer none ∧ mv = .pointer none) ∨ ∃ l m, lv = .pointer (some ⟨l, 0, none⟩) ∧ mv = .pointer (some ⟨m, 0, none⟩)) ∧
        Calls Try.prog 14 #[.slice a n1 c1, .slice a' n2 c2] w2 fun e w3 => e = .returned (.bool true) ∧ WI w w3 s k d r p n M N lv mv := by
  rcases open_both h hs hF (by omega) p n ep hp hn.2 hep with ⟨ev, hev, hc, hd⟩ | ⟨pn, nn, LL, g, rfl, rfl, hfit, hon, hll, hlt, hc, hd⟩
  · refine ⟨ev, hc.mono ?_⟩
    rintro e w1 ⟨rfl, hb1⟩
    refine ⟨.pointer none, none, 0, 0, rfl, (hd w1 hb1).mono ?_⟩
    rintro e w2 ⟨rfl, hb2⟩
    refine ⟨.pointer none, none, 0, 0, rfl, .inl ⟨rfl, rfl⟩, ?_⟩
    refine (frames_same none none [] 0 0 w2 (by simp) (by simp) (.inl rfl) (.inl rfl)).mono ?_
    rintro e w3 ⟨rfl, hb3⟩
    exact ⟨rfl, hs, hl, hC, hF, .no (((h.below hb1).below hb2).below hb3)⟩
  · refine ⟨0, hc.mono ?_⟩
    rintro e w1 ⟨l, v, rfl, hL1, hF1, hl1, hl2, hb1⟩
    obtain ⟨a, c, rfl, hR1⟩ := hF1.rfs
    refine ⟨_, a, LL.length, c, rfl, (hd w1 hb1).mono ?_⟩
    rintro e w2 ⟨m, v', rfl, hL2, hF2, hm1, hm2, hb2⟩
    obtain ⟨a', c', rfl, hR2⟩ := hF2.rfs
    refine ⟨_, a', LL.length, c', rfl, .inr ⟨l, m, rfl, rfl⟩, ?_⟩
    have hlen : ∀ L ∈ LL, L.length ≤ 140737488351232 := by
      intro L hL
      have h1 := hlt L hL
      have h2 : L.length ≤ tot L := by
        clear h1 hL
        induction L with
        | nil => simp [tot]
        | cons x r ih => simp only [List.length_cons, tot]; omega
      omega
    refine (frames_same a a' LL c c' w2 (by omega) hlen (hR1.below hb2) hR2).mono ?_
    rintro e w3 ⟨rfl, hb3⟩
    have hw := h.old.size
    have hT : Two w w2 d r l m g pn nn (fun j => j = l ∨ j = m) M N := by
      have hz := hb2.size
      refine ⟨hon, (hb2.block l hl2).trans hL1, hL2, by omega, by have := hb1.size; omega, by omega, .inl rfl, .inr rfl, ?_⟩
      refine h.wider (hb1.trans (hb2.mono hb1.size)) ?_
      intro j hj
      have := hb1.size
      rcases hj with rfl | rfl
      · exact .inr ⟨hl1, by omega⟩
      · exact .inr ⟨by omega, hm2⟩
    exact ⟨rfl, hs, hl, hC, hF, .two l m g pn nn rfl rfl (by omega) (hT.below hb3)⟩

theorem and3 (a : Int) : ∃ e : Nat, bits .and .i64 a 3 = (e : Int) ∧ e < 4 := by
  refine ⟨(BitVec.ofInt 64 a).toNat % 4, ?_, by omega⟩
  show IntKind.i64.wrap ((BitVec.ofInt 64 a &&& BitVec.ofInt 64 3).toNat : Int) = _
  rw [BitVec.toNat_and, show (BitVec.ofInt 64 3).toNat = 2 ^ 2 - 1 from rfl, Nat.and_two_pow_sub_one_eq_mod, IntKind.wrap_i64]
  omega
theorem Pair.lt {w wr : World} {d r j : Nat} {K : Nat → Prop} {M : D} {N : R} (h : Pair w wr d r K M N) (hj : K j) : j < wr.heap.size := by
  obtain ⟨F, G, _, _, _, _, h5, _⟩ := h
  exact h5 j hj
theorem p_rfuse2 {w wr : World} {d r : Nat} {K : Nat → Prop} {M : D} {N : R} (q : Int) (h : Pair w wr d r K M N) (hq : q ≤ 9223372036854775807) :
    Pair w (wr.setCell ⟨r, 2, none⟩ (.int .i64 (max q (-1)))) d r K M (N.fuse q) ∧ wr.cell? ⟨r, 2, none⟩ = some (.int .i64 N.f) ∧ wr.frozen? ⟨r, 2, none⟩ = false ∧ ∀ j, K j → (wr.setCell ⟨r, 2, none⟩ (.int .i64 (max q (-1)))).heap[j]? = wr.heap[j]? := by
  have h0 := h
  obtain ⟨F, G, h1, h2, h3, h4, h5, h6⟩ := h
  obtain ⟨hD, hT⟩ := h2.fuse q hq
  obtain ⟨gl, cl, ca, cc, hV, _⟩ := h2.open
  exact ⟨(p_rfuse q h0 hq).1, cell_blk hV.blk 2, frozen_blk hV.blk 2, (pair_r h1 h3 h4 h5 h6 hD.grow hT).2⟩
theorem Two.wider {w wc w' : World} {d r l m : Nat} {g : G} {pn nn : Nat} {K K' : Nat → Prop} {M : D} {N : R} (h : Two w wc d r l m g pn nn K M N) (hb : Below wc.heap.size wc w') (hK : ∀ j, K j → K' j) (hK' : ∀ j, K' j → K j ∨ (wc.heap.size ≤ j ∧ j < w'.heap.size)) : Two w w' d r l m g pn nn K' M N := by
  have h1 := h.below hb
  exact ⟨h1.on, h1.log, h1.rlog, h1.wl, h1.wm, h1.ne, hK _ h.kl, hK _ h.km, h.pair.wider hb hK'⟩

set_option maxHeartbeats 8000000 in
set_option maxRecDepth 20000 in
theorem wplays_walk (s p n : Int) (ep : Nat) (a : Option Addr) (l : List OpW) (cap : Nat) (w : World) (hp0 : I64 p) (hn0 : I64 n) (hep0 : ep < 18446744073709551616) (hb : ScrW w a l) :
    Calls Try.prog 3 #[.int .i64 s, .int .i64 p, .int .i64 n, .int .u64 (ep : Int), .slice a l.length cap] w fun e w' => e = .returned (.bool true) ∧ Below w.heap.size w w' := by
  by_cases hs : 1 ≤ s ∧ s ≤ 64
  · obtain ⟨s1, s2⟩ := hs
    obtain ⟨z, rfl⟩ := Int.eq_ofNat_of_zero_le (by omega : 0 ≤ s)
    have haw := awake_any w
    have HB : Hid (ScrW w a l) := hb
    have HPN : Hid (I64 p ∧ I64 n) := ⟨hp0, hn0⟩
    have hz1 : ¬ (z : Int) < 1 := by omega
    have hz2 : ¬ (64 : Int) < (z : Int) := by omega
    clear hb hp0 hn0
    go_enter Try.func3, Try.ntmps3
    go_wp2_with (go_at_call 9; refine Calls.mono haw ?_; rintro e w0 ⟨rfl, hb0⟩; have hnew := new_ok z w0 (by omega) (by omega))
    refine Calls.mono hnew ?_
    rintro e w1 ⟨d, rfl, hD1, hb1⟩
    clear hnew haw
    have HD1 : Hid (Dev w1 (fun k => w0.heap.size ≤ k ∧ k < w1.heap.size) d (D.new z blank) ∧ Below w0.heap.size w0 w1 ∧ Below w.heap.size w w0) := ⟨hD1, hb1, hb0⟩
    clear hD1 hb1 hb0
    have hrn := refnew_ok z w1 (by omega) (by omega)
    go_wp2_with fail
    refine Calls.mono hrn ?_
    rintro e w2 ⟨r, rfl, hR2, hb2⟩
    have hP2 : Pair w w2 d r (fun _ => False) (D.new z blank) (R.new z blank) := (pair_make HD1.out.1 HD1.out.2.1 hR2 hb2).older HD1.out.2.2
    obtain ⟨ev, hop⟩ := open_stand (s := z) (k := 0) hP2 (sim_new z blank) (D.Full.new z) (by simp [D.new]) (by simp [D.new]) (by omega) p n ep HPN.out.1 HPN.out.2 hep0
    have hee : (ev == ev) = true := by simp
    clear hrn hR2 hb2 HD1 hP2
    go_wp2_with fail
    refine Calls.mono hop ?_
    rintro e w3 ⟨lv, av, c1, c2, rfl, hro⟩
    clear hop
    go_wp2_with fail
    refine Calls.mono hro ?_
    rintro e w4 ⟨mv, bv, c3, c4, rfl, hnil, hfr⟩
    clear hro
    have HFR : Hid (Calls Try.prog 14 #[.slice av c1 c2, .slice bv c3 c4] w4 fun e w3 => e = .returned (.bool true) ∧ WI w w3 z 0 d r p n (D.new z blank) (R.new z blank) lv mv) := hfr
    clear hfr
    go_upto_region 7 with fail
    go_cut [86] from 71 to 86 (fun bx wc => bx = .bool false ∧ WI w wc z 0 d r p n (D.new z blank) (R.new z blank) lv mv)
    case first =>
      rcases hnil with ⟨rfl, rfl⟩ | ⟨l1, m1, rfl, rfl⟩
      · go_wp2_with (go_at_call 14; refine Calls.mono HFR.out ?_; rintro e w5 ⟨rfl, hI5⟩)
        go_meet
        case rel => exact ⟨rfl, hI5⟩
      · go_wp2_with (go_at_call 14; refine Calls.mono HFR.out ?_; rintro e w5 ⟨rfl, hI5⟩)
        go_meet
        case rel => exact ⟨rfl, hI5⟩
    case rest =>
      obtain ⟨rfl, hI0⟩ := hcut
      have HI0 : Hid (WI w wc z 0 d r p n (D.new z blank) (R.new z blank) lv mv) := hI0
      clear hI0 HFR hnil
      go_wp2
      go_loopw [3, 15, 16, 17, 18, 19, 20, 21] (fun epv lv av ev mv bv fv i wr => ∃ (k ep : Nat) (M : D) (N : R), k ≤ l.length ∧ k ≤ 40 ∧ i = .int .i64 k ∧ epv = .int .u64 (ep : Int) ∧ ep < 18446744073709551616 ∧ WI w wr z k d r p n M N lv mv) (fun _ _ _ _ _ _ _ i _ => 40 - (intOf i).toNat)
      case atStart => exact ⟨0, ep, _, _, Nat.zero_le _, by omega, rfl, rfl, hep0, HI0.out⟩
      case round =>
        obtain ⟨k, ep, M, N, hk, hk40, rfl, rfl, hep, hI⟩ := hrel
        clear HI0
        have HI : Hid (WI w wr z k d r p n M N u15 u18) := hI
        by_cases hlt : k < l.length ∧ k < 40
        · obtain ⟨hlt, h40⟩ := hlt
          have hki : (k : Int) < (l.length : Int) := by omega
          have h40i : (k : Int) < 40 := by omega
          cases hI.stand with
          | no hq =>
            clear hI
            go_wp2
            go_ret
            exact ⟨rfl, HI.out.old⟩
          | two l1 m1 g pn nn hpn hnn hs12 hT =>
            obtain ⟨b, off, rfl, hbl, hcs⟩ := HB.out.at hlt
            obtain ⟨q0, q1, q2, q3, q4, q6⟩ := hcs k hlt
            obtain ⟨o, ho⟩ : ∃ o, o = l[k] := ⟨_, rfl⟩
            rw [← ho] at q0 q1 q2 q3 q4 q6
            have hold := hI.old
            have x0 := (hold.cell (p := ⟨b, off + k * 5, none⟩) hbl).trans q0
            have x1 := (hold.cell (p := ⟨b, off + k * 5 + 1, none⟩) hbl).trans q1
            have x2 := (hold.cell (p := ⟨b, off + k * 5 + 2, none⟩) hbl).trans q2
            have x3 := (hold.cell (p := ⟨b, off + k * 5 + 3, none⟩) hbl).trans q3
            have x4 := (hold.cell (p := ⟨b, off + k * 5 + 4, none⟩) hbl).trans q4
            have HQ : Hid (OpWOk w o) := q6
            have HS : Hid (Sim M N ∧ M.L.length = z ∧ M.C.length ≤ 70 * k ∧ M.Full) := ⟨hI.sim, hI.len, hI.top, hI.full⟩
            have HT0 := (show Hid (Two w wr d r l1 m1 g pn nn (fun j => j = l1 ∨ j = m1) M N) from hT)
            have HPP : Hid (p = (pn : Int) ∧ n = (nn : Int) ∧ pn + nn ≤ z) := ⟨hpn, hnn, hs12⟩
            clear q0 q1 q2 q3 q4 q6 hcs hI hold ho hT hpn hnn hs12 HI
            go_upto_block 2 with fail
            obtain ⟨W, hW⟩ : ∃ W, W = wr.alloc (.cells #[.int .i64 o.kd, .int .i64 o.a, .int .i64 o.b, .slice o.sa o.L.length o.sc, .slice o.ka o.keep.length o.kc] 43) := ⟨_, rfl⟩
            obtain ⟨X, hXs⟩ : ∃ X, X = wr.heap.size := ⟨_, rfl⟩
            rw [← hW, ← hXs]
            have hX : W.heap[X]? = some (.cells #[.int .i64 o.kd, .int .i64 o.a, .int .i64 o.b, .slice o.sa o.L.length o.sc, .slice o.ka o.keep.length o.kc] 43 (0, 0)) := by rw [hW, hXs]; exact heap_alloc_new wr _
            have hsz : W.heap.size = wr.heap.size + 1 := by rw [hW]; simp
            have hT : Two w W d r l1 m1 g pn nn (fun j => (j = l1 ∨ j = m1) ∨ j = X) M N := HT0.out.wider (by rw [hW]; exact (Below.refl _ _).alloc (Nat.le_refl _) _) (fun j hj => .inl hj) (fun j hj => by
              rcases hj with hj | hj
              · exact .inl hj
              · exact .inr ⟨by omega, by omega⟩)
            have HT : Hid (Two w W d r l1 m1 g pn nn (fun j => (j = l1 ∨ j = m1) ∨ j = X) M N) := hT
            have HX : Hid (W.heap[X]? = some (.cells #[.int .i64 o.kd, .int .i64 o.a, .int .i64 o.b, .slice o.sa o.L.length o.sc, .slice o.ka o.keep.length o.kc] 43 (0, 0))) := hX
            have y0 : W.cell? ⟨X, 0, none⟩ = some (.int .i64 o.kd) := cell_blk hX 0
            have y1 : W.cell? ⟨X, 1, none⟩ = some (.int .i64 o.a) := cell_blk hX 1
            have y2 : W.cell? ⟨X, 2, none⟩ = some (.int .i64 o.b) := cell_blk hX 2
            have y3 : W.cell? ⟨X, 3, none⟩ = some (.slice o.sa o.L.length o.sc) := cell_blk hX 3
            have y4 : W.cell? ⟨X, 4, none⟩ = some (.slice o.ka o.keep.length o.kc) := cell_blk hX 4
            obtain ⟨kd, hkd⟩ : ∃ kd, kd = o.kd := ⟨_, rfl⟩
            rw [← hkd] at y0 ⊢
            clear x0 x1 x2 x3 x4 hX hT hW hsz HT0 hXs
            have HKD : Hid (kd = o.kd) := hkd
            have HXB : Hid (∀ w5 : World, (∀ j, (j = l1 ∨ j = m1) ∨ j = X → w5.heap[j]? = W.heap[j]?) → w5.cell? ⟨X, 0, none⟩ = some (.int .i64 kd) ∧ w5.cell? ⟨X, 1, none⟩ = some (.int .i64 o.a) ∧ w5.cell? ⟨X, 3, none⟩ = some (.slice o.sa o.L.length o.sc) ∧ w5.cell? ⟨X, 4, none⟩ = some (.slice o.ka o.keep.length o.kc)) := (by
              intro w5 h5
              have hb5 := (h5 X (.inr rfl)).trans HX.out
              rw [HKD.out]
              exact ⟨cell_blk hb5 0, cell_blk hb5 1, cell_blk hb5 3, cell_blk hb5 4⟩)
            clear hkd
            go_cut [3, 15, 16, 17, 18, 19, 20] (fun epv lv av ev mv bv fv wc => ∃ (ep : Nat) (M : D) (N : R), epv = .int .u64 (ep : Int) ∧ ep < 18446744073709551616 ∧ WI w wc z (k + 1) d r p n M N lv mv)
            case first =>
              by_cases k0 : kd = 0
              · as_aux_lemma =>
                  subst k0
                  have hTd := HT.out.below (Below.refl _ W).drew
                  obtain ⟨v, M', N', g', z1, z2, z3, z4, z5, hap, hra⟩ := append_both hTd.pair HS.out.1 HS.out.2.2.2 (by have := HS.out.2.2.1; omega) hTd.kl hTd.km hTd.wl hTd.wm g pn nn hTd.on (by have := HPP.out; omega) hTd.log o.sa o.L o.sc HQ.out.1 HQ.out.2.2.2
                  have HAP := (show Hid _ from hap)
                  have HRA := (show Hid _ from hra)
                  have HTD := (show Hid _ from hTd)
                  have HZ : Hid (Sim M' N' ∧ M'.L.length = z ∧ M'.C.length ≤ 70 * (k + 1) ∧ M'.Full ∧ g'.On pn nn) := ⟨z1, z3.trans HS.out.2.1, by have := HS.out.2.2.1; omega, z2, z5⟩
                  have hvv : (v == v) = true := by simp
                  obtain ⟨nd, hnd⟩ : ∃ nd, nd = needN o.L := ⟨_, rfl⟩
                  have hnn2 : ((nd : Int) == (nd : Int)) = true := by simp
                  have HN1 : Hid (∀ q, Below w.heap.size w q → Calls Try.prog 17 #[.slice o.sa o.L.length o.sc] q fun e w' => e = .returned (.int .i64 (nd : Int)) ∧ q = w') := (by
                    intro q hq
                    rw [hnd]
                    exact need_any o.sa o.L o.sc q (by have := HQ.out.2.2.2; omega) (strs_old hq HQ.out.1).1)
                  have HN2 : Hid (∀ q, Below w.heap.size w q → Calls Try.prog 18 #[.slice o.sa o.L.length o.sc] q fun e w' => e = .returned (.int .i64 (nd : Int)) ∧ Below q.heap.size q w') := (by
                    intro q hq
                    rw [hnd]
                    exact refNeed_any o.sa o.L o.sc q HQ.out.2.2.2 (strs_old hq HQ.out.1).1)
                  have HXL : Hid (∀ w5 : World, w5.heap[X]? = W.heap[X]? → w5.cell? ⟨X, 3, none⟩ = some (.slice o.sa o.L.length o.sc)) := (by
                    intro w5 h5
                    exact cell_blk (h5.trans HX.out) 3)
                  have HXN : Hid (l1 ≠ X ∧ m1 ≠ X ∧ l1 ≠ m1 ∧ X < W.heap.size) := (by
                    have h1 := hTd.log
                    have h2 := hTd.rlog
                    have h3 : W.drew.heap[X]? = _ := HX.out
                    refine ⟨?_, ?_, hTd.ne, (Array.getElem?_eq_some_iff.1 HX.out).1⟩
                    · rintro rfl
                      rw [LogV, h3] at h1
                      simp at h1
                    · rintro rfl
                      rw [RLogG, RLog, h3] at h2
                      simp at h2)
                  have i3 := HXL.out W.drew rfl
                  clear hTd hap hra z1 z2 z3 z4 z5 hnd y0 y1 y2 y4 HXB
                  go_wp2
                  go_region_held3 (fun w' => w'.cell? ⟨X, 3, none⟩ = some (.slice o.sa o.L.length o.sc)) (go_keep)
                    (first
                      | (go_at_call 15; refine Calls.mono HAP.out ?_; rintro e w5 ⟨rfl, hP5, hL5, hk5⟩; have s0 := HXL.out w5 (hk5 X (.inr rfl) (fun e => HXN.out.1 e.symm)); have hR5 : RLogG w5 m1 r pn nn g := (hk5 m1 (.inl (.inr rfl)) (fun e => HXN.out.2.2.1 e.symm)).trans HTD.out.rlog)
                      | (go_at_call 16; refine Calls.mono (HRA.out w5 hP5 hR5) ?_; rintro e w6 ⟨rfl, hP6, hR6, hk6⟩; have s1 := HXL.out w6 ((hk6 X (.inr rfl) (fun e => HXN.out.2.1 e.symm)).trans (hk5 X (.inr rfl) (fun e => HXN.out.1 e.symm))); have hL6 : LogV w6 l1 d g' := (hk6 l1 (.inl (.inl rfl)) HXN.out.2.2.1).trans hL5; have hn1 := HN1.out w6 hP6.old; have hn2 := HN2.out w6 hP6.old)
                      | (go_at_call 17; refine Calls.mono hn1 ?_; rintro e w7 ⟨rfl, rfl⟩)
                      | (go_at_call 18; refine Calls.mono hn2 ?_; rintro e w8 ⟨rfl, hb8⟩; have s2 := HXL.out w8 ((hb8.block X (hP6.lt (.inr rfl))).trans ((hk6 X (.inr rfl) (fun e => HXN.out.2.1 e.symm)).trans (hk5 X (.inr rfl) (fun e => HXN.out.1 e.symm))))))
                  have HT6 : Hid (Two w w8 d r l1 m1 g' pn nn (fun j => (j = l1 ∨ j = m1) ∨ j = X) M' N') := (show Two _ _ _ _ _ _ _ _ _ _ _ _ from Two.below ⟨HZ.out.2.2.2.2, hL6, hR6, HTD.out.wl, HTD.out.wm, HTD.out.ne, HTD.out.kl, HTD.out.km, hP6⟩ hb8)
                  clear hP5 hL5 hk5 hR5 hP6 hR6 hk6 hL6 hn1 hn2 hb8 s0 s1 s2 i3 HAP HRA HN1 HN2 y3
                  go_wp2
                  go_meet
                  case rel => exact ⟨ep, M', N', rfl, hep, HZ.out.1, HZ.out.2.1, HZ.out.2.2.1, HZ.out.2.2.2.1, .two l1 m1 g' pn nn HPP.out.1 HPP.out.2.1 HPP.out.2.2 HT6.out.less⟩
              by_cases k3 : kd = 3
              · as_aux_lemma =>
                  subst k3
                  clear k0
                  have hfu := p_fuse o.a HT.out.pair HQ.out.2.2.1.2
                  go_wp2_with fail
                  refine Calls.mono hfu ?_
                  rintro e w4 ⟨rfl, hP4, hk4⟩
                  have v1 := (HXB.out w4 hk4).2.1
                  obtain ⟨hP5, t1, t2, hk5⟩ := p_rfuse2 o.a hP4 HQ.out.2.2.1.2
                  have HT5 : Hid (Two w (w4.setCell ⟨r, 2, none⟩ (.int .i64 (max o.a (-1)))) d r l1 m1 g pn nn (fun j => (j = l1 ∨ j = m1) ∨ j = X) (M.fuse o.a) (N.fuse o.a)) := HT.out.with hP5 (fun j hj => (hk5 j hj).trans (hk4 j hj))
                  clear hfu hk4 hP4 hP5 hk5 y0 y1 y2 y3 y4
                  go_wp2
                  go_meet
                  case rel => exact ⟨ep, _, _, rfl, hep, sim_fuse HS.out.1 _, (fuse_len M o.a).1.trans HS.out.2.1, by have := (fuse_len M o.a).2; have := HS.out.2.2.1; omega, HS.out.2.2.2.fuse _, .two l1 m1 g pn nn HPP.out.1 HPP.out.2.1 HPP.out.2.2 HT5.out.less⟩
              by_cases k4 : kd = 4
              · as_aux_lemma =>
                  subst k4
                  clear k0 k3
                  have hse := sector_any o.a o.b W
                  go_wp2_with fail
                  refine Calls.mono hse ?_
                  rintro e w4 ⟨rfl, ho4, hb4⟩
                  have hlt4 : W.heap.size < w4.heap.size := (owns_lt ho4 _ rfl).2
                  have HO4 := (show Hid (w4.ownsRow W.heap.size 5 1 (.slice (some ⟨W.heap.size, 0, none⟩) 256 256) 256 (bcs (sec o.a o.b))) from ho4)
                  obtain ⟨gb, hgb⟩ : ∃ gb, gb = W.heap.size := ⟨_, rfl⟩
                  obtain ⟨y, hy⟩ : ∃ y : ByteArray, y = ⟨(sec o.a o.b).toArray⟩ := ⟨_, rfl⟩
                  rw [← hgb] at HO4 hlt4 ⊢
                  have hT4 : Two w w4 d r l1 m1 g pn nn (fun j => ((j = l1 ∨ j = m1) ∨ j = X) ∨ j = gb) M N := HT.out.wider hb4 (fun j hj => .inl hj) (fun j hj => by rcases hj with hj | hj; exact .inl hj; exact .inr ⟨by omega, by omega⟩)
                  have hX4 : w4.heap[X]? = _ := (hb4.block X (HT.out.pair.lt (.inr rfl))).trans HX.out
                  have hw11 := p_write (cap := 256) o.a hT4.pair (.inr rfl) (l := sec o.a o.b) (own_bytes (w := w4) HO4.out) (by have := HS.out.2.2.1; omega)
                  rw [sec_length, ← hy] at hw11
                  obtain ⟨z1, z2⟩ := sim_wr HS.out.1 HT.out.pair.ok o.a y
                  have z3 := wr_len M o.a y
                  obtain ⟨v, hv⟩ : ∃ v, v = (M.wr o.a y).1 := ⟨_, rfl⟩
                  rw [← hv] at hw11 z1
                  obtain ⟨M', hM'⟩ : ∃ M', M' = (M.wr o.a y).2 := ⟨_, rfl⟩
                  obtain ⟨N', hN'⟩ : ∃ N', N' = (N.wr o.a y).2 := ⟨_, rfl⟩
                  rw [← hM'] at hw11 z2 z3
                  rw [← hN'] at z2
                  have HF : Hid (∀ w5 : World, (∀ j, (((j = l1 ∨ j = m1) ∨ j = X) ∨ j = gb) → w5.heap[j]? = w4.heap[j]?) → w5.cell? ⟨X, 1, none⟩ = some (.int .i64 o.a) ∧ (convert 50 9 (.slice (some ⟨gb, 0, none⟩) 256 256)).run Try.prog w5 = .ok (.string y) w5) := by
                    intro w5 h5
                    have hb5 := (h5 X (.inl (.inr rfl))).trans hX4
                    have ho5 : w5.ownsRow gb 5 1 (.slice (some ⟨gb, 0, none⟩) 256 256) 256 (bcs (sec o.a o.b)) := owns_other (owns_base HO4.out fun j hj => by simp [Value.ownBlock] at hj; omega) fun j hj => by
                      obtain rfl : gb = j := by simpa [Value.ownBlock] using hj
                      exact h5 gb (.inr rfl)
                    have hcv := convert_bytes w5 (some ⟨gb, 0, none⟩) 256 (sec o.a o.b) (own_bytes ho5)
                    rw [sec_length, ← hy] at hcv
                    exact ⟨cell_blk hb5 1, hcv⟩
                  have HR17 : Hid (∀ w5, Pair w w5 d r (fun j => ((j = l1 ∨ j = m1) ∨ j = X) ∨ j = gb) M' N → Calls Try.prog 22 #[.pointer (some ⟨r, 0, none⟩), .int .i64 o.a, .string y] w5 fun e w6 => e = .returned (.int .i64 v) ∧ Pair w w6 d r (fun j => ((j = l1 ∨ j = m1) ∨ j = X) ∨ j = gb) M' N' ∧ ∀ j, (((j = l1 ∨ j = m1) ∨ j = X) ∨ j = gb) → w6.heap[j]? = w5.heap[j]?) := by
                    intro w5 h5
                    have := p_rwrite o.a y h5 (by rw [HS.out.1.c]; have := HS.out.2.2.1; omega)
                    rw [← z1, ← hN'] at this
                    exact this
                  have HZ : Hid (Sim M' N' ∧ M'.L.length = z ∧ M'.C.length ≤ 70 * (k + 1) ∧ M'.Full) := ⟨z2, z3.1.trans HS.out.2.1, by have := HS.out.2.2.1; omega, by rw [hM']; exact HS.out.2.2.2.wr _ _⟩
                  have HT4 := (show Hid _ from hT4)
                  have i0 := (HF.out w4 (fun _ _ => rfl)).1
                  clear hse ho4 hb4 hT4 hX4 z1 z2 z3 hv hM' hN' hy hgb y2 y3 y4 y1 y0
                  go_wp2_with fail
                  refine Calls.mono hw11 ?_
                  rintro e w5 ⟨rfl, hP5, hk5⟩
                  have s0 := (HF.out w5 hk5).1
                  have s1 := (HF.out w5 hk5).2
                  have hr17 := HR17.out w5 hP5
                  have HK5 := (show Hid _ from hk5)
                  clear hw11 hP5 hk5 i0
                  go_wp2_with fail
                  refine Calls.mono hr17 ?_
                  rintro e w6 ⟨rfl, hP6, hk6⟩
                  have HT6 : Hid (Two w w6 d r l1 m1 g pn nn (fun j => ((j = l1 ∨ j = m1) ∨ j = X) ∨ j = gb) M' N') := HT4.out.with hP6 (fun j hj => (hk6 j hj).trans (HK5.out j hj))
                  clear hP6 hk6 s0 s1 HF HR17 hr17 HO4
                  go_wp2
                  go_meet
                  case rel => exact ⟨ep, M', N', rfl, hep, HZ.out.1, HZ.out.2.1, HZ.out.2.2.1, HZ.out.2.2.2, .two l1 m1 g pn nn HPP.out.1 HPP.out.2.1 HPP.out.2.2 HT6.out.less⟩
              have b0 : (kd == 0) = false := by rw [beq_eq_false_iff_ne]; exact k0
              have b3 : (kd == 3) = false := by rw [beq_eq_false_iff_ne]; exact k3
              have b4 : (kd == 4) = false := by rw [beq_eq_false_iff_ne]; exact k4
              clear k0 k3 k4
              by_cases k2 : kd = 2
              · as_aux_lemma =>
                  subst k2
                  clear b0 b3 b4
                  have hcr := p_crash (cap := o.kc) HT.out.pair HQ.out.2.1 (by have := HS.out.2.2.1; omega)
                  go_wp2_with fail
                  refine Calls.mono hcr ?_
                  rintro e w4 ⟨rfl, hP4, hk4⟩
                  have v4 := (HXB.out w4 hk4).2.2.2
                  have hrc := p_rcrash (cap := o.kc) hP4 HQ.out.2.1 (by rw [HS.out.1.c]; have := HS.out.2.2.1; omega)
                  have HK4 := (show Hid _ from hk4)
                  clear hcr hk4 hP4 y0 y1 y2 y3 y4
                  go_wp2_with fail
                  refine Calls.mono hrc ?_
                  rintro e w5 ⟨rfl, hP5, hk5⟩
                  have v0 := (HXB.out w5 (fun j hj => (hk5 j hj).trans (HK4.out j hj))).1
                  obtain ⟨ev, hop⟩ := open_stand (s := z) (k := k + 1) (hP5.less (K' := fun _ => False) (fun j hj => hj.elim)) (sim_crash HS.out.1 o.keep) (HS.out.2.2.2.crash _) (by show (app _ _).length = z; rw [app_length]; exact HS.out.2.1) (by show ([] : List (Nat × ByteArray)).length ≤ _; simp) (by omega) p n ep HPN.out.1 HPN.out.2 hep
                  clear hrc hk5 hP5 v4
                  have hee : (ev == ev) = true := by simp
                  go_wp2_with fail
                  refine Calls.mono hop ?_
                  rintro e w7 ⟨lv, av, c1, c2, rfl, hro⟩
                  clear hop
                  go_wp2_with fail
                  refine Calls.mono hro ?_
                  rintro e w8 ⟨mv, bv, c3, c4, rfl, hnil, hfr⟩
                  have HFR := (show Hid _ from hfr)
                  clear hro hfr
                  rcases hnil with ⟨rfl, rfl⟩ | ⟨l2, m2, rfl, rfl⟩
                  · go_wp2_with (go_at_call 14; refine Calls.mono HFR.out ?_; rintro e w9 ⟨rfl, hI9⟩)
                    go_meet
                    case rel => exact ⟨ep, _, _, rfl, hep, hI9⟩
                  · go_wp2_with (go_at_call 14; refine Calls.mono HFR.out ?_; rintro e w9 ⟨rfl, hI9⟩)
                    go_meet
                    case rel => exact ⟨ep, _, _, rfl, hep, hI9⟩
              have b2 : (kd == 2) = false := by rw [beq_eq_false_iff_ne]; exact k2
              clear k2
              by_cases k5 : kd = 5
              · as_aux_lemma =>
                  subst k5
                  clear b0 b2 b3 b4
                  obtain ⟨e5, h5, h54⟩ := and3 o.a
                  have hw5 : IntKind.u64.wrap (e5 : Int) = (e5 : Int) := by rw [IntKind.wrap_u64]; omega
                  obtain ⟨ev, hop⟩ := open_stand (s := z) (k := k + 1) (HT.out.pair.less (K' := fun _ => False) (fun j hj => hj.elim)) HS.out.1 HS.out.2.2.2 HS.out.2.1 (by have := HS.out.2.2.1; omega) (by omega) p n e5 HPN.out.1 HPN.out.2 (by omega)
                  clear y2 y3 y4
                  have hee : (ev == ev) = true := by simp
                  go_wp2_with fail
                  refine Calls.mono hop ?_
                  rintro e w7 ⟨lv, av, c1, c2, rfl, hro⟩
                  clear hop
                  go_wp2_with fail
                  refine Calls.mono hro ?_
                  rintro e w8 ⟨mv, bv, c3, c4, rfl, hnil, hfr⟩
                  have HFR := (show Hid _ from hfr)
                  clear hro hfr
                  rcases hnil with ⟨rfl, rfl⟩ | ⟨l2, m2, rfl, rfl⟩
                  · go_wp2_with (go_at_call 14; refine Calls.mono HFR.out ?_; rintro e w9 ⟨rfl, hI9⟩)
                    go_meet
                    case rel => exact ⟨e5, _, _, rfl, by omega, hI9⟩
                  · go_wp2_with (go_at_call 14; refine Calls.mono HFR.out ?_; rintro e w9 ⟨rfl, hI9⟩)
                    go_meet
                    case rel => exact ⟨e5, _, _, rfl, by omega, hI9⟩
              have b5 : (kd == 5) = false := by rw [beq_eq_false_iff_ne]; exact k5
              clear k5
              as_aux_lemma =>
                obtain ⟨ev, hop⟩ := open_stand (s := z) (k := k + 1) (HT.out.pair.less (K' := fun _ => False) (fun j hj => hj.elim)) HS.out.1 HS.out.2.2.2 HS.out.2.1 (by have := HS.out.2.2.1; omega) (by omega) p n ep HPN.out.1 HPN.out.2 hep
                clear y1 y2 y3 y4
                have hee : (ev == ev) = true := by simp
                go_wp2_with fail
                refine Calls.mono hop ?_
                rintro e w7 ⟨lv, av, c1, c2, rfl, hro⟩
                clear hop
                go_wp2_with fail
                refine Calls.mono hro ?_
                rintro e w8 ⟨mv, bv, c3, c4, rfl, hnil, hfr⟩
                have HFR := (show Hid _ from hfr)
                clear hro hfr
                rcases hnil with ⟨rfl, rfl⟩ | ⟨l2, m2, rfl, rfl⟩
                · go_wp2_with (go_at_call 14; refine Calls.mono HFR.out ?_; rintro e w9 ⟨rfl, hI9⟩)
                  go_meet
                  case rel => exact ⟨ep, _, _, rfl, hep, hI9⟩
                · go_wp2_with (go_at_call 14; refine Calls.mono HFR.out ?_; rintro e w9 ⟨rfl, hI9⟩)
                  go_meet
                  case rel => exact ⟨ep, _, _, rfl, hep, hI9⟩
            case rest =>
              obtain ⟨ep, M, N, rfl, hep, hI⟩ := hcut
              have HI := (show Hid _ from hI)
              clear HT HX HS HQ HXB y0 y1 y2 y3 y4 HKD HPP
              have hst := hI.stand
              have HTOP : Hid (M.C.length ≤ 70 * (k + 1) ∧ Sim M N) := ⟨hI.top, hI.sim⟩
              clear hI
              cases hst with
              | no hq =>
                as_aux_lemma =>
                  have AW : Hid (∀ wx, Below wc.heap.size wc wx → Calls Try.prog 28 #[.pointer (some ⟨d, 0, none⟩), .pointer (some ⟨r, 0, none⟩)] wx fun e w' => e = .returned (.bool true) ∧ Below wx.heap.size wx w') := fun wx hx => same_any (hq.below hx) HTOP.out.2 (by have := HTOP.out.1; omega)
                  clear hq
                  go_wp2_with fail
                  refine wp_region_above wc wc.heap.size (by kernel_rfl) (by kernel_rfl) (Below.refl _ _) ?_
                  repeat (go_big_quiet_step ((go_at_call 28; with_reducible exact above_below (AW.out _ (Above.ok _)))))
                  refine wpQuiet_nil ?_
                  rintro w' ⟨⟨w5, hb5⟩, rfl⟩
                  go_wp2
                  go_roundw
                  case rel => exact ⟨k + 1, ep, M, N, by omega, by omega, by go_num, rfl, hep, HI.out.below hb5⟩
                  case measure => simp [intOf]; omega
              | two l2 m2 g2 pn2 nn2 hp2 hn2 hs2 hT2 =>
                as_aux_lemma =>
                  have hD : ∀ q, Below wc.heap.size wc q → Two w q d r l2 m2 g2 pn2 nn2 (fun j => j = l2 ∨ j = m2) M N := fun q hq => hT2.below hq
                  have b1 : Below wc.heap.size wc wc.drew := (Below.refl _ _).drew
                  have b2 : Below wc.heap.size wc wc.drew.drew := (Below.refl _ _).drew.drew
                  have b3 : Below wc.heap.size wc wc.drew.drew.drew := (Below.refl _ _).drew.drew.drew
                  have hle := hT2.on.le
                  have hfi := hT2.on.fin
                  have hok := hT2.on.ok.le
                  have htp := hT2.on.ok.top
                  have hnx := next_any l2 d g2 wc.drew (hD _ b1).log
                  have hrm := room_any l2 d g2 wc.drew (hD _ b1).log hT2.on.ok
                  have hrr := refRoom_any m2 r pn2 nn2 g2.ep g2.nx (g2.at' - pn2) g2.fl wc.drew.drew (hD _ b2).rlog (by omega) (by omega)
                  have hsm := same_any (hD _ b3).pair HTOP.out.2 (by have := HTOP.out.1; omega)
                  obtain ⟨rm, hrmE⟩ : ∃ rm, rm = g2.fin - g2.at' := ⟨_, rfl⟩
                  rw [show nn2 - (g2.at' - pn2) = rm from by omega] at hrr
                  rw [← hrmE] at hrm
                  obtain ⟨xn, hxn⟩ : ∃ xn, xn = g2.nx := ⟨_, rfl⟩
                  rw [← hxn] at hnx
                  have i0 : wc.drew.cell? ⟨m2, 4, none⟩ = some (.int .u64 (xn : Int)) := by rw [hxn]; exact cell_blk (hD _ b1).rlog 4
                  have i1 : wc.drew.drew.cell? ⟨m2, 4, none⟩ = some (.int .u64 (xn : Int)) := i0
                  have i2 : wc.drew.drew.drew.cell? ⟨m2, 4, none⟩ = some (.int .u64 (xn : Int)) := i0
                  have i3 : wc.cell? ⟨m2, 4, none⟩ = some (.int .u64 (xn : Int)) := i0
                  have hx1 : ((xn : Int) == (xn : Int)) = true := by simp
                  have hx2 : ((rm : Int) == (rm : Int)) = true := by simp
                  have HMC : Hid (∀ w5, Below wc.drew.drew.drew.heap.size wc.drew.drew.drew w5 → w5.cell? ⟨m2, 4, none⟩ = some (.int .u64 (xn : Int))) := (by
                    intro w5 h5
                    rw [hxn]
                    exact cell_blk (hD w5 (b3.trans h5)).rlog 4)
                  clear hT2 hD b1 b2 b3 hle hfi hok htp hrmE hxn hp2 hn2 hs2
                  go_wp2
                  go_region_held3 (fun w' => w'.cell? ⟨m2, 4, none⟩ = some (.int .u64 (xn : Int))) (go_keep)
                    (first
                      | (go_at_call 25; refine Calls.mono hnx ?_; rintro e w5 ⟨rfl, rfl⟩)
                      | (go_at_call 26; refine Calls.mono hrm ?_; rintro e w6 ⟨rfl, rfl⟩)
                      | (go_at_call 27; refine Calls.mono hrr ?_; rintro e w7 ⟨rfl, rfl⟩)
                      | (go_at_call 28; refine Calls.mono hsm ?_; rintro e w8 ⟨rfl, hb8⟩; have s8 := HMC.out w8 hb8))
                  have HB8 : Hid (Below wc.heap.size wc w8) := (Below.refl _ wc).drew.drew.drew.trans hb8
                  clear hb8 hsm i0 i1 i2 i3 s8 HMC
                  go_wp2
                  go_roundw
                  case rel => exact ⟨k + 1, ep, M, N, by omega, by omega, by go_num, rfl, hep, HI.out.below HB8.out⟩
                  case measure => simp [intOf]; omega
        · have HLT := (show Hid (¬ (k < l.length ∧ k < 40)) from hlt)
          clear hI hlt
          by_cases hc : k < l.length
          · have hc1 : (k : Int) < (l.length : Int) := by omega
            have hc2 : ¬ (k : Int) < 40 := by have := HLT.out; omega
            go_wp2
            go_ret
            exact ⟨rfl, HI.out.old⟩
          · have hc1 : ¬ (k : Int) < (l.length : Int) := by omega
            go_wp2
            go_ret
            exact ⟨rfl, HI.out.old⟩
  · have hnb : s < 1 ∨ 64 < s := by omega
    have haw := awake_any w
    clear hb hs
    rcases hnb with h1 | h1
    · go_enter Try.func3, Try.ntmps3
      go_wp2_with (go_at_call 9; refine Calls.mono haw ?_; rintro e w1 ⟨rfl, hb1⟩)
      go_ret
      exact ⟨rfl, hb1⟩
    · have h2 : ¬ s < 1 := by omega
      go_enter Try.func3, Try.ntmps3
      go_wp2_with (go_at_call 9; refine Calls.mono haw ?_; rintro e w1 ⟨rfl, hb1⟩)
      go_ret
      exact ⟨rfl, hb1⟩
end Go.Proofs.Ytecljiefljgfmaa
