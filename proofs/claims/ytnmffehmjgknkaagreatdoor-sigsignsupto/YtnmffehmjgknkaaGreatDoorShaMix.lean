/-
  The rounds of SHA-256 in plain terms, and (*shaState).mix by its contract.
-/
import Derived.Test.YtnmffehmjgknkaaGreatDoorShaText
namespace Go.Proofs.YtnmffehmjgknkaaGreatDoor
open Go.RowKit

theorem Wds.cellD {w : World} {g : Nat} {t : TypeId} {l : List Wd} (h : Wds w g t l) {k : Nat} (hk : k < l.length) : w.cell? ⟨g, k, none⟩ = some (.int .u32 (W (l.getD k 0))) := by
  rw [h.cell hk, getD_at hk]

structure S8 where
  a : Wd
  b : Wd
  c : Wd
  d : Wd
  e : Wd
  f : Wd
  g : Wd
  h : Wd
def S8.toL (s : S8) : List Wd := [s.a, s.b, s.c, s.d, s.e, s.f, s.g, s.h]
def sLow (T : List Wd) (i : Nat) (s : S8) : Wd := (rotl s.e 26 ^^^ rotl s.e 21 ^^^ rotl s.e 7) + (s.e &&& s.f ||| s.g &&& ~~~ s.e) + s.h + shaK.getD i 0 + T.getD i 0
def sHigh (s : S8) : Wd := (rotl s.a 30 ^^^ rotl s.a 19 ^^^ rotl s.a 10) + (s.a &&& s.b ||| s.a &&& s.c ||| s.b &&& s.c)
def sRound (T : List Wd) (i : Nat) (s : S8) : S8 := ⟨sLow T i s + sHigh s, s.a, s.b, s.c, s.d + sLow T i s, s.e, s.f, s.g⟩
def sRounds (T : List Wd) : Nat → S8 → S8
  | 0, s => s
  | n + 1, s => sRound T n (sRounds T n s)
def S8.plus (s t : S8) : S8 := ⟨s.a + t.a, s.b + t.b, s.c + t.c, s.d + t.d, s.e + t.e, s.f + t.f, s.g + t.g, s.h + t.h⟩
/-- What a block makes of the state. -/
def sMix (l : List UInt8) (s : S8) : S8 := s.plus (sRounds (stL l 64) 64 s)

/-- The state while the sums are laid in. -/
def upd (s t : S8) (k : Nat) : List Wd := (s.plus t).toL.take k ++ s.toL.drop k
theorem upd_length (s t : S8) {k : Nat} (h : k ≤ 8) : (upd s t k).length = 8 := by simp [upd, S8.toL]; omega
theorem upd_get (s t : S8) {k : Nat} (h : k < 8) : (upd s t k)[k]'(by rw [upd_length s t (by omega)]; exact h) = s.toL.getD k 0 := by
  match k, h with
  | 0, _ => rfl
  | 1, _ => rfl
  | 2, _ => rfl
  | 3, _ => rfl
  | 4, _ => rfl
  | 5, _ => rfl
  | 6, _ => rfl
  | 7, _ => rfl
theorem upd_set (s t : S8) {k : Nat} (h : k < 8) : (upd s t k).set k (s.toL.getD k 0 + t.toL.getD k 0) = upd s t (k + 1) := by
  match k, h with
  | 0, _ => rfl
  | 1, _ => rfl
  | 2, _ => rfl
  | 3, _ => rfl
  | 4, _ => rfl
  | 5, _ => rfl
  | 6, _ => rfl
  | 7, _ => rfl
theorem upd_all (s t : S8) : upd s t 8 = (s.plus t).toL := rfl

theorem turned_is (x : Wd) (a b c : Nat) (y : Wd) (w : World) (ha : 0 < a ∧ a < 32) (hb : 0 < b ∧ b < 32) (hc : 0 < c ∧ c < 32) (hy : rotl x (32 - a) ^^^ rotl x (32 - b) ^^^ rotl x (32 - c) = y) :
    Calls Tryz.prog 202 #[.int .u32 (W x), .int .i64 (a : Int), .int .i64 (b : Int), .int .i64 (c : Int)] w fun e w' => e = .returned (.int .u32 (W y)) ∧ w' = w := by
  subst hy
  exact (turned_any x a b c w ha hb hc).mono fun _ _ h => ⟨h.1, h.2.symm⟩

theorem index64 (t : S8) (k : Nat) (h : k < 8) (w : World) :
    (Instr.index 174 (.agg #[.int .u32 (W t.a), .int .u32 (W t.b), .int .u32 (W t.c), .int .u32 (W t.d), .int .u32 (W t.e), .int .u32 (W t.f), .int .u32 (W t.g), .int .u32 (W t.h)]) (.int .i64 (k : Int))).run Tryz.prog w = .ok (.int .u32 (W (t.toL.getD k 0))) w := by
  obtain ⟨i3, h3, _, hz, _⟩ := info_parts info159
  match k, h with
  | 0, _ => simp [Instr.index, asIntOf, run_underlying Tryz.underlying174, sizeOf, typeInfo, part, h3, hz, S8.toL]
  | 1, _ => simp [Instr.index, asIntOf, run_underlying Tryz.underlying174, sizeOf, typeInfo, part, h3, hz, S8.toL]
  | 2, _ => simp [Instr.index, asIntOf, run_underlying Tryz.underlying174, sizeOf, typeInfo, part, h3, hz, S8.toL]
  | 3, _ => simp [Instr.index, asIntOf, run_underlying Tryz.underlying174, sizeOf, typeInfo, part, h3, hz, S8.toL]
  | 4, _ => simp [Instr.index, asIntOf, run_underlying Tryz.underlying174, sizeOf, typeInfo, part, h3, hz, S8.toL]
  | 5, _ => simp [Instr.index, asIntOf, run_underlying Tryz.underlying174, sizeOf, typeInfo, part, h3, hz, S8.toL]
  | 6, _ => simp [Instr.index, asIntOf, run_underlying Tryz.underlying174, sizeOf, typeInfo, part, h3, hz, S8.toL]
  | 7, _ => simp [Instr.index, asIntOf, run_underlying Tryz.underlying174, sizeOf, typeInfo, part, h3, hz, S8.toL]

set_option maxHeartbeats 2000000 in
set_option maxRecDepth 20000 in
theorem shaMix_any (g kg b off c : Nat) (s : S8) (l : List UInt8) (w : World) (hst : Wds w g 175 s.toL) (hK : Wds w kg 176 shaK) (hl : l.length = 64) (hc : 64 ≤ c) (hbl : b < w.heap.size)
    (hcs : ∀ j (h : j < l.length), w.cell? ⟨b, off + j, none⟩ = some (.int .u8 (l[j].toNat : Int))) :
    Calls Tryz.prog 163 #[.pointer (some ⟨g, 0, none⟩), .pointer (some ⟨kg, 0, none⟩), .slice (some ⟨b, off, none⟩) 64 c] w fun e w' => e = .returned (.tuple #[]) ∧ w.grownBy w' (some g) ∧ Wds w' g 175 (sMix l s).toL := by
  have HS : Hid (Wds w g 175 s.toL) := hst
  have HK : Hid (Wds w kg 176 shaK) := hK
  have HL : Hid (l.length = 64) := hl
  have HCS : Hid (∀ j (h : j < l.length), w.cell? ⟨b, off + j, none⟩ = some (.int .u8 (l[j].toNat : Int))) := hcs
  have hglt := HS.out.lt
  clear hst hK hl hcs
  go_enter Tryz.func163, Tryz.ntmps163
  go_wp2_with fail
  refine (shaText_any b off c l _ HL.out hc hbl HCS.out).mono ?_
  rintro e w1 ⟨rfl, hb1⟩
  have hz := (zero_of_info (P := Tryz.prog) (t := 176) (v := .agg (wcs (zeros 64)).toArray) (n := 64) (by kernel_rfl)).1 w1
  have hnew : (w1.alloc (.cells (wcs (zeros 64)).toArray 176)).heap[w1.heap.size]? = some (.cells (wcs (zeros 64)).toArray 176 (0, 0)) := heap_alloc_last w1 _
  have HN : Hid _ := hnew
  have hs64 : (Tryz.prog.info? 176).map (·.size) = some (wcs (stL l 64)).toArray.size := by rw [size176, List.size_toArray, wcs_length, stL_length]
  have HS64 : Hid _ := hs64
  clear hs64 hnew
  go_wp2_with (refine wpList_store_row rfl 176 _ _ rfl _ _ rfl rfl 176 _ HN.out HS64.out (by simp [wcs_length, stL_length, zeros]) (wcs_all _) ?_)
  clear hz
  have hT : Wds ((w1.alloc (.cells (wcs (zeros 64)).toArray 176)).setRow w1.heap.size (wcs (stL l 64)).toArray) w1.heap.size 176 (stL l 64) := setRow_heap _ _ _ _ _ _ HN.out
  have hnx : Below w.heap.size w ((w1.alloc (.cells (wcs (zeros 64)).toArray 176)).setRow w1.heap.size (wcs (stL l 64)).toArray) :=
    (hb1.alloc hb1.size _).trans ⟨rfl, rfl, rfl, by simp, fun j hj => setRow_other _ _ _ _ (by have := hb1.size; omega)⟩
  have hw1 := hb1.size
  have HT : Hid _ := hT
  clear hT hb1 HN HS64
  generalize (w1.alloc (.cells (wcs (zeros 64)).toArray 176)).setRow w1.heap.size (wcs (stL l 64)).toArray = w2 at *
  generalize w1.heap.size = tg at *
  obtain ⟨s0, s1, s2, s3, s4, s5, s6, s7⟩ := s
  have hS : Wds w2 g 175 [s0, s1, s2, s3, s4, s5, s6, s7] := HS.out.below hnx hglt
  have c0 : w2.cell? ⟨g, 0, none⟩ = some (.int .u32 (W s0)) := hS.cell (k := 0) (by simp)
  have c1 : w2.cell? ⟨g, 1, none⟩ = some (.int .u32 (W s1)) := hS.cell (k := 1) (by simp)
  have c2 : w2.cell? ⟨g, 2, none⟩ = some (.int .u32 (W s2)) := hS.cell (k := 2) (by simp)
  have c3 : w2.cell? ⟨g, 3, none⟩ = some (.int .u32 (W s3)) := hS.cell (k := 3) (by simp)
  have c4 : w2.cell? ⟨g, 4, none⟩ = some (.int .u32 (W s4)) := hS.cell (k := 4) (by simp)
  have c5 : w2.cell? ⟨g, 5, none⟩ = some (.int .u32 (W s5)) := hS.cell (k := 5) (by simp)
  have c6 : w2.cell? ⟨g, 6, none⟩ = some (.int .u32 (W s6)) := hS.cell (k := 6) (by simp)
  have c7 : w2.cell? ⟨g, 7, none⟩ = some (.int .u32 (W s7)) := hS.cell (k := 7) (by simp)
  clear hS
  go_wp2_with fail
  go_quiet (fail)
  go_wp2
  clear c0 c1 c2 c3 c4 c5 c6 c7
  have HT' : Hid (Wds (w2.drewN nq) tg 176 (stL l 64)) := HT.out
  have hnx' := below_drewN hnx nq
  clear HT hnx
  generalize w2.drewN nq = w3 at *
  have HS' : Hid (Wds w g 175 (S8.toL ⟨s0, s1, s2, s3, s4, s5, s6, s7⟩)) := HS.out
  clear HS
  generalize hs8 : (⟨s0, s1, s2, s3, s4, s5, s6, s7⟩ : S8) = s at *
  have e0 : s0 = (sRounds (stL l 64) 0 s).a := by rw [← hs8]; rfl
  have e1 : s1 = (sRounds (stL l 64) 0 s).b := by rw [← hs8]; rfl
  have e2 : s2 = (sRounds (stL l 64) 0 s).c := by rw [← hs8]; rfl
  have e3 : s3 = (sRounds (stL l 64) 0 s).d := by rw [← hs8]; rfl
  have e4 : s4 = (sRounds (stL l 64) 0 s).e := by rw [← hs8]; rfl
  have e5 : s5 = (sRounds (stL l 64) 0 s).f := by rw [← hs8]; rfl
  have e6 : s6 = (sRounds (stL l 64) 0 s).g := by rw [← hs8]; rfl
  have e7 : s7 = (sRounds (stL l 64) 0 s).h := by rw [← hs8]; rfl
  go_loopw [7, 8, 9, 10, 11, 12, 13, 14, 54] (fun va vb vc vd ve vf vg vh i wr => ∃ k : Nat, k ≤ 64 ∧ i = .int .i64 k ∧ va = .int .u32 (W (sRounds (stL l 64) k s).a) ∧ vb = .int .u32 (W (sRounds (stL l 64) k s).b) ∧ vc = .int .u32 (W (sRounds (stL l 64) k s).c) ∧ vd = .int .u32 (W (sRounds (stL l 64) k s).d)
      ∧ ve = .int .u32 (W (sRounds (stL l 64) k s).e) ∧ vf = .int .u32 (W (sRounds (stL l 64) k s).f) ∧ vg = .int .u32 (W (sRounds (stL l 64) k s).g) ∧ vh = .int .u32 (W (sRounds (stL l 64) k s).h) ∧
      Wds wr tg 176 (stL l 64) ∧ Below w.heap.size w wr) (fun _ _ _ _ _ _ _ _ i _ => 64 - (intOf i).toNat)
  case atStart => exact ⟨0, by omega, rfl, by rw [e0], by rw [e1], by rw [e2], by rw [e3], by rw [e4], by rw [e5], by rw [e6], by rw [e7], HT'.out, hnx'⟩
  case round =>
    have HS8 : Hid ((⟨s0, s1, s2, s3, s4, s5, s6, s7⟩ : S8) = s) := hs8
    clear e0 e1 e2 e3 e4 e5 e6 e7 hs8 HT' hnx'
    obtain ⟨k, hk, rfl, rfl, rfl, rfl, rfl, rfl, rfl, rfl, rfl, hws, hnx⟩ := hrel
    have HW : Hid (Wds wr tg 176 (stL l 64)) := hws
    clear hws
    by_cases hlt : k < 64
    · have HR : Hid (sRounds (stL l 64) (k + 1) s = sRound (stL l 64) k (sRounds (stL l 64) k s)) := rfl
      generalize sRounds (stL l 64) k s = t at *
      obtain ⟨ta, tb, tc, td, te, tf, t6, th⟩ := t
      have hKw : Wds wr kg 176 shaK := HK.out.below hnx HK.out.lt
      have hkc := hKw.cellD (k := k) hlt
      have htc := HW.out.cellD (k := k) (by rw [stL_length]; exact hlt)
      have hlt' : (k : Int) < 64 := by omega
      have HLo : Hid (sLow (stL l 64) k ⟨ta, tb, tc, td, te, tf, t6, th⟩ = (rotl te 26 ^^^ rotl te 21 ^^^ rotl te 7) + (te &&& tf ||| t6 &&& ~~~ te) + th + shaK.getD k 0 + (stL l 64).getD k 0) := rfl
      have HHi : Hid (sHigh ⟨ta, tb, tc, td, te, tf, t6, th⟩ = (rotl ta 30 ^^^ rotl ta 19 ^^^ rotl ta 10) + (ta &&& tb ||| ta &&& tc ||| tb &&& tc)) := rfl
      generalize hKV : shaK.getD k 0 = kv at *
      generalize hTV : (stL l 64).getD k 0 = tv at *
      generalize hlo : sLow (stL l 64) k ⟨ta, tb, tc, td, te, tf, t6, th⟩ = lo at *
      generalize hhi : sHigh ⟨ta, tb, tc, td, te, tf, t6, th⟩ = hi at *
      have HR2 : Hid (sRounds (stL l 64) (k + 1) s = ⟨lo + hi, ta, tb, tc, td + lo, te, tf, t6⟩) := by
        show _ = _
        rw [HR.out, sRound, hlo, hhi]
      clear hKw hKV hTV hlo hhi HR
      generalize hy1 : rotl te 26 ^^^ rotl te 21 ^^^ rotl te 7 = y1 at *
      generalize hy2 : rotl ta 30 ^^^ rotl ta 19 ^^^ rotl ta 10 = y2 at *
      have f1 := W_and te tf
      generalize te &&& tf = p1 at *
      have f2 := W_andNot t6 te
      generalize t6 &&& ~~~ te = p2 at *
      have f3 := W_or p1 p2
      generalize p1 ||| p2 = p3 at *
      have f4 := W_addm y1 p3
      generalize y1 + p3 = p4 at *
      have f5 := W_addm p4 th
      generalize p4 + th = p5 at *
      have f6 := W_addm p5 kv
      generalize p5 + kv = p6 at *
      have f7 := W_addm p6 tv
      have hl7 : p6 + tv = lo := HLo.out.symm
      rw [hl7] at f7
      have g1 := W_and ta tb
      generalize ta &&& tb = r1 at *
      have g2 := W_and ta tc
      generalize ta &&& tc = r2 at *
      have g3 := W_or r1 r2
      generalize r1 ||| r2 = r3 at *
      have g4 := W_and tb tc
      generalize tb &&& tc = r4 at *
      have g5 := W_or r3 r4
      generalize r3 ||| r4 = r5 at *
      have g6 := W_addm y2 r5
      have hl6 : y2 + r5 = hi := HHi.out.symm
      rw [hl6] at g6
      have j1 := W_addm lo hi
      generalize hj1 : lo + hi = na at *
      have j2 := W_addm td lo
      generalize hj2 : td + lo = ne at *
      have Q1 : Hid (∀ w, Calls Tryz.prog 202 #[.int .u32 (W te), .int .i64 6, .int .i64 11, .int .i64 25] w fun e w' => e = .returned (.int .u32 (W y1)) ∧ w' = w) := fun w => turned_is te 6 11 25 y1 w (by decide) (by decide) (by decide) hy1
      have Q2 : Hid (∀ w, Calls Tryz.prog 202 #[.int .u32 (W ta), .int .i64 2, .int .i64 13, .int .i64 22] w fun e w' => e = .returned (.int .u32 (W y2)) ∧ w' = w) := fun w => turned_is ta 2 13 22 y2 w (by decide) (by decide) (by decide) hy2
      clear hy1 hy2 hl7 hl6 HLo HHi hj1 hj2
      dsimp only
      go_wp2_with fail
      go_quiet ((go_at_call 202; exact (Q1.out _).mono (fun _ _ h => ⟨h.1, _, h.2⟩)))
      go_wp2_with fail
      refine (Q2.out _).mono ?_
      rintro e w' ⟨rfl, rfl⟩
      go_wp2
      go_roundw
      case rel =>
        refine ⟨k + 1, by omega, by go_num, ?_, ?_, ?_, ?_, ?_, ?_, ?_, ?_, HW.out, below_drewN hnx _⟩
        all_goals rw [HR2.out]
        · rw [j1]
        · rw [j2]
      case measure => simp [intOf]; omega
    · obtain rfl : k = 64 := by omega
      have HM : Hid (sMix l s = s.plus (sRounds (stL l 64) 64 s)) := rfl
      generalize sRounds (stL l 64) 64 s = t at *
      have HI := fun k h w => index64 t k h w
      have hSw : Wds wr g 175 (upd s t 0) := HS'.out.below hnx hglt
      have HSW : Hid _ := hSw
      clear hSw
      have hgw : w.grownBy wr (some g) := below_grown hnx _
      clear hnx HW
      go_wp2_with (refine wpList_build_is rfl 64 _ rfl #[.int .u32 (W t.a), .int .u32 (W t.b), .int .u32 (W t.c), .int .u32 (W t.d), .int .u32 (W t.e), .int .u32 (W t.f), .int .u32 (W t.g), .int .u32 (W t.h)] (by kernel_rfl) ?_)
      go_loopw [115] (fun i wr => ∃ k : Nat, k ≤ 8 ∧ i = .int .i64 k ∧ Wds wr g 175 (upd s t k) ∧ w.grownBy wr (some g)) (fun i _ => 8 - (intOf i).toNat)
      case atStart => exact ⟨0, by omega, rfl, HSW.out, hgw⟩
      case round =>
        clear HSW hgw
        obtain ⟨k, hk, rfl, hws, hgw⟩ := hrel
        have HW : Hid (Wds wr g 175 (upd s t k)) := hws
        clear hws
        by_cases hlt : k < 8
        · have hlt' : (k : Int) < 8 := by omega
          have hcell := HW.out.cell (k := k) (by rw [upd_length s t hk]; exact hlt)
          rw [upd_get s t hlt] at hcell
          have hfr := HW.out.frozen k
          have hidx := HI k hlt
          have HU : Hid ((upd s t k).set k (s.toL.getD k 0 + t.toL.getD k 0) = upd s t (k + 1)) := upd_set s t hlt
          generalize s.toL.getD k 0 = x at *
          generalize t.toL.getD k 0 = y at *
          have ha := W_addm x y
          generalize x + y = z at *
          clear HI
          go_wp2_with fail
          go_region
          go_wp2
          go_roundw
          case rel =>
            refine ⟨k + 1, by omega, by go_num, ?_, ?_⟩
            · rw [← HU.out]
              exact HW.out.set k _
            · exact grown_drew (grown_setCell (p := ⟨g, k, none⟩) hgw rfl _)
          case measure => simp [intOf]; omega
        · obtain rfl : k = 8 := by omega
          clear HI
          go_wp2
          refine bodyPost_end (results_none rfl _ _ _) rfl ?_
          refine ⟨rfl, hgw, ?_⟩
          rw [HS8.out, HM.out, ← upd_all]
          exact HW.out
end Go.Proofs.YtnmffehmjgknkaaGreatDoor
