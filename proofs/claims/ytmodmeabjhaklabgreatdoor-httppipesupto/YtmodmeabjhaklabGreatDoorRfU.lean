/-
  The document's request line.
-/
import Derived.Test.YtmodmeabjhaklabGreatDoorRunH
import Derived.Deep.Cut
import Derived.Deep.CutRange
import Derived.Deep.RegionWith
namespace Go.Proofs.YtmodmeabjhaklabGreatDoor
open Go.RowKit

theorem digitR_any (c : Int) (w : World) (h0 : 0 ≤ c) (h1 : c ≤ 255) :
    Calls Tryz.prog 44 #[.int .u8 c] w fun e w' => e = .returned (.bool (digB c)) ∧ w = w' := by
  go_enter Tryz.func44, Tryz.ntmps44
  go_wp2
  all_goals
    go_ret
    exact ⟨ret_bool (by rw [Bool.eq_iff_iff]; simp [digB]; try omega), rfl⟩
/-- The request so far, as it is told. -/
def rq4 (m t : List UInt8) : Value := .agg #[.string ⟨m.toArray⟩, .string ⟨t.toArray⟩, .slice none 0 0, .slice none 0 0]
def FsR (w w' : World) (p : Nat) (l : List UInt8) (e : Ending) : Nx → Prop
  | .fin t => (∃ m u, e = .returned (.tuple #[rq4 m u, .bool false])) ∧ DF w' p l (tC t) ∧ Md (· = p) w w'
  | .go q s' => e = .returned (.tuple #[rq4 s'.m s'.t, .bool true]) ∧ Dr w' p l s'.at_ s'.head s'.fields false 0 ∧ Md (· = p) w w' ∧ q = 1
theorem FsR.fin {w w' : World} {p : Nat} {l : List UInt8} {e : Ending} {x : Nx} {t : Tld} (hx : x = .fin t) (he : ∃ m u, e = .returned (.tuple #[rq4 m u, .bool false])) (h1 : DF w' p l (tC t)) (h2 : Md (· = p) w w') : FsR w w' p l e x := by rw [hx]; exact ⟨he, h1, h2⟩
theorem FsR.go {w w' : World} {p : Nat} {l : List UInt8} {e : Ending} {x : Nx} {s' : St} (hx : x = .go 1 s') (he : e = .returned (.tuple #[rq4 s'.m s'.t, .bool true])) (h1 : Dr w' p l s'.at_ s'.head s'.fields false 0) (h2 : Md (· = p) w w') : FsR w w' p l e x := by rw [hx]; exact ⟨he, h1, h2, rfl⟩
theorem set4 {w W : World} {p N : Nat} {l : List UInt8} {k h n : Nat} {m : Bool} {x : Int} (hd : Dr W p l k h n m x) (hm : Md (· = p) w W) (hN : w.heap.size ≤ N) (hp : p ≠ N) (v0 v1 v2 v3 : Value) : Dr ((((W.setCell ⟨N, 0, none⟩ v0).setCell ⟨N, 1, none⟩ v1).setCell ⟨N, 2, none⟩ v2).setCell ⟨N, 3, none⟩ v3) p l k h n m x ∧ Md (· = p) w ((((W.setCell ⟨N, 0, none⟩ v0).setCell ⟨N, 1, none⟩ v1).setCell ⟨N, 2, none⟩ v2).setCell ⟨N, 3, none⟩ v3) :=
  ⟨keep_blk (F := (· = N)) hd (((((Md.refl _ _).setp _ _).setp _ _).setp _ _).setp _ _) hp, (((hm.set (.inr hN) _ _).set (.inr hN) _ _).set (.inr hN) _ _).set (.inr hN) _ _⟩
theorem fin4 {w W : World} {p N : Nat} {l : List UInt8} {k h n : Nat} {m : Bool} {y : Int} {x : Nx} {t : Tld} {v0 v1 v2 v3 : Value} (a b : List UInt8) (hx : x = .fin t) (hy : y = tC t) (hd : Dr W p l k h n m y) (hm : Md (· = p) w W) (hN : w.heap.size ≤ N) (hp : p ≠ N) : FsR w ((((W.setCell ⟨N, 0, none⟩ v0).setCell ⟨N, 1, none⟩ v1).setCell ⟨N, 2, none⟩ v2).setCell ⟨N, 3, none⟩ v3) p l (.returned (.tuple #[.agg #[.string ⟨a.toArray⟩, .string ⟨b.toArray⟩, .slice none 0 0, .slice none 0 0], .bool false])) x := by
  have := set4 hd hm hN hp v0 v1 v2 v3
  exact FsR.fin hx ⟨a, b, rfl⟩ ⟨k, h, n, m, by rw [← hy]; exact this.1⟩ this.2
theorem first_math {s m t v : List UInt8} {x y1 y2 y3 : Int} {vv b2 b3 : Bool} (hr : reqL s = if (t.all tarC && vv) = false then .bad 308 else if v ≠ http11 then .bad 340 else if t.getD 0 0 ≠ 47 ∧ t ≠ [42] then .bad 331 else .ok m t) (hx : x = if t.all tarC then 0 else 308) (h1 : y1 = if vv then x else 308) (hb2 : b2 = decide (y1 = 0 ∧ v ≠ http11)) (h2 : y2 = if b2 then 340 else y1) (hb3 : b3 = decide (y2 = 0 ∧ (t.getD 0 0 ≠ 47 ∧ t ≠ [42]))) (h3 : y3 = if b3 then 331 else y2) : (y3 = 0 → reqL s = .ok m t) ∧ (y3 ≠ 0 → reqL s = .bad y3) := by
  by_cases hg : (t.all tarC && vv) = false
  · have hy1 : y1 = 308 := by
      rw [h1]
      cases vv with
      | false => rfl
      | true =>
        rw [Bool.and_true] at hg
        rw [hx, hg]
        rfl
    have hy2 : y2 = 308 := by rw [h2, hb2, hy1, decide_eq_false (fun h => absurd h.1 (by decide))]; rfl
    have hy3 : y3 = 308 := by rw [h3, hb3, hy2, decide_eq_false (fun h => absurd h.1 (by decide))]; rfl
    rw [hr, if_pos hg, hy3]
    exact ⟨fun h => absurd h (by decide), fun _ => rfl⟩
  · have hy1 : y1 = 0 := by
      simp only [Bool.not_eq_false, Bool.and_eq_true] at hg
      rw [h1, hg.2, hx, hg.1]
      rfl
    rw [hr, if_neg hg]
    by_cases hv : v = http11
    · have hy2 : y2 = 0 := by rw [h2, hb2, decide_eq_false (fun h => h.2 hv)]; exact hy1
      rw [if_neg (fun h => h hv)]
      by_cases ht : t.getD 0 0 ≠ 47 ∧ t ≠ [42]
      · have hy3 : y3 = 331 := by rw [h3, hb3, decide_eq_true ⟨hy2, ht⟩]; rfl
        rw [if_pos ht, hy3]
        exact ⟨fun h => absurd h (by decide), fun _ => rfl⟩
      · have hy3 : y3 = 0 := by rw [h3, hb3, decide_eq_false (fun h => ht h.2)]; exact hy2
        rw [if_neg ht, hy3]
        exact ⟨fun _ => rfl, fun h => absurd rfl h⟩
    · have hy2 : y2 = 340 := by rw [h2, hb2, decide_eq_true ⟨hy1, hv⟩]; rfl
      have hy3 : y3 = 340 := by rw [h3, hb3, hy2, decide_eq_false (fun h => absurd h.1 (by decide))]; rfl
      rw [if_pos hv, hy3]
      exact ⟨fun h => absurd h (by decide), fun _ => rfl⟩
theorem end4 {w W : World} {p N : Nat} {l : List UInt8} {k h n : Nat} {y : Int} {zb : Bool} {x : Nx} {s' : St} {a b : List UInt8} {T : ByteArray} {v0 v1 v2 v3 : Value} (hz : zb = (y == 0)) (hok : y = 0 → x = .go 1 s') (hbad : y ≠ 0 → x = .fin (.bad y)) (hs : s'.at_ = k ∧ s'.head = h ∧ s'.fields = n ∧ s'.m = a ∧ s'.t = b) (hT : T = ⟨b.toArray⟩) (hd : Dr W p l k h n false y) (hm : Md (· = p) w W) (hN : w.heap.size ≤ N) (hp : p ≠ N) : FsR w ((((W.setCell ⟨N, 0, none⟩ v0).setCell ⟨N, 1, none⟩ v1).setCell ⟨N, 2, none⟩ v2).setCell ⟨N, 3, none⟩ v3).drew p l (.returned (.tuple #[.agg #[.string ⟨a.toArray⟩, .string T, .slice none 0 0, .slice none 0 0], .bool zb])) x := by
  have h4 := set4 hd hm hN hp v0 v1 v2 v3
  obtain ⟨rfl, rfl, rfl, rfl, rfl⟩ := hs
  subst hT
  by_cases hy : y = 0
  · subst hy
    have e : zb = true := by rw [hz]; rfl
    rw [e]
    exact FsR.go (hok rfl) rfl h4.1 h4.2.drew
  · have e : zb = false := by rw [hz, beq_eq_false_iff_ne]; exact hy
    rw [e]
    exact FsR.fin (hbad hy) ⟨_, _, rfl⟩ ⟨_, _, _, _, h4.1⟩ h4.2.drew
set_option maxRecDepth 20000 in
set_option maxHeartbeats 8000000 in
theorem firstR_any (p : Nat) (l : List UInt8) (w : World) (hd : Dr w p l 0 0 0 false 0) (hl : l.length ≤ 1000000000) :
    Calls Tryz.prog 19 #[.pointer (some ⟨p, 0, none⟩)] w fun e w' => FsR w w' p l e (stepF l 0 st0) := by
  obtain ⟨N, hN⟩ : ∃ N, N = w.heap.size := ⟨_, rfl⟩
  obtain ⟨WA, hWA⟩ : ∃ WA, WA = w.alloc (.cells #[.string ⟨#[]⟩, .string ⟨#[]⟩, .slice none 0 0, .slice none 0 0] 25) := ⟨_, rfl⟩
  have hbA : Below w.heap.size w WA := by rw [hWA]; exact (Below.refl _ _).alloc (Nat.le_refl _) _
  have hnA : WA.heap[N]? = some (.cells #[.string ⟨#[]⟩, .string ⟨#[]⟩, .slice none 0 0, .slice none 0 0] 25 (0, 0)) := by rw [hWA, hN]; exact heap_alloc_new w _
  have hpN : p ≠ N := by have := hd.lt; omega
  have hNp : N ≠ p := fun h => hpN h.symm
  have HL := (show Hid _ from lineR_any p l 0 0 0 8192 338 WA (hd.below hbA) (Nat.zero_le _) hl (by omega) (by omega))
  have HA := (show Hid _ from And.intro hnA hbA)
  have HN : Hid (w.heap.size ≤ N) := by show _ ≤ _; omega
  have hcw1 := hd.cell 1 rfl
  clear hd hnA hbA
  go_enter Tryz.func19, Tryz.ntmps19
  go_wp2_with fail
  rw [← hN, ← hWA]
  clear hN hWA hcw1
  refine Calls.mono HL.out ?_
  clear HL
  intro e w1 hln
  cases hx : lnL 8192 (8192 + 1) (l.drop 0) with
  | more =>
    rw [hx] at hln
    obtain ⟨rfl, ⟨k, h, n, m, hdr⟩, hm⟩ := hln
    have hn1 := keep_blk HA.out.1 hm (fun h => hNp h)
    have d0 := cell_blk hn1 0
    have d1 := cell_blk hn1 1
    have d2 := cell_blk hn1 2
    have d3 := cell_blk hn1 3
    have g0 := frozen_blk hn1 0
    have g1 := frozen_blk hn1 1
    have g2 := frozen_blk hn1 2
    have g3 := frozen_blk hn1 3
    simp at d0 d1 d2 d3
    have c1 := hdr.cell 1 rfl
    have c2 := hdr.cell 2 rfl
    have f2 := hdr.fz 2
    have HX : Hid (stepF l 0 st0 = .fin .more) := by
      show stepF l 0 st0 = _
      have h2 : lnL 8192 8193 (l.drop st0.at_) = .more := hx
      rw [stepF, h2]
    have HD := (show Hid _ from And.intro hdr ((Md.ofBelow HA.out.2).trans hm))
    clear hx hdr hm hn1
    unfold failS
    go_wp2
    refine bodyPost_ret (v := .tuple #[.agg #[.string ⟨#[]⟩, .string ⟨#[]⟩, .slice none 0 0, .slice none 0 0], .bool false]) (by simp [results, Tryz.results19, go_sem, d0, d1, d2, d3]) rfl ?_
    exact fin4 [] [] HX.out rfl (Dr.of (set_lst HD.out.1 2 _) rfl) (HD.out.2.setp _ _) HN.out hpN
  | long =>
    rw [hx] at hln
    obtain ⟨rfl, ⟨k, h, n, m, hdr⟩, hm⟩ := hln
    have hn1 := keep_blk HA.out.1 hm (fun h => hNp h)
    have d0 := cell_blk hn1 0
    have d1 := cell_blk hn1 1
    have d2 := cell_blk hn1 2
    have d3 := cell_blk hn1 3
    have g0 := frozen_blk hn1 0
    have g1 := frozen_blk hn1 1
    have g2 := frozen_blk hn1 2
    have g3 := frozen_blk hn1 3
    simp at d0 d1 d2 d3
    have c1 := hdr.cell 1 rfl
    have c2 := hdr.cell 2 rfl
    have f2 := hdr.fz 2
    have HX : Hid (stepF l 0 st0 = .fin (.bad 338)) := by
      show stepF l 0 st0 = _
      have h2 : lnL 8192 8193 (l.drop st0.at_) = .long := hx
      rw [stepF, h2]
    have HD := (show Hid _ from And.intro hdr ((Md.ofBelow HA.out.2).trans hm))
    clear hx hdr hm hn1
    unfold failS
    go_wp2
    refine bodyPost_ret (v := .tuple #[.agg #[.string ⟨#[]⟩, .string ⟨#[]⟩, .slice none 0 0, .slice none 0 0], .bool false]) (by simp [results, Tryz.results19, go_sem, d0, d1, d2, d3]) rfl ?_
    exact fin4 [] [] HX.out rfl (Dr.of (set_lst HD.out.1 2 _) rfl) (HD.out.2.setp _ _) HN.out hpN
  | ok s =>
    rw [hx] at hln
    rcases hln with hln | hln
    · obtain ⟨hbr, rfl, ⟨k, h, n, m, hdr⟩, hm⟩ := hln
      have hn1 := keep_blk HA.out.1 hm (fun h => hNp h)
      have d0 := cell_blk hn1 0
      have d1 := cell_blk hn1 1
      have d2 := cell_blk hn1 2
      have d3 := cell_blk hn1 3
      have g0 := frozen_blk hn1 0
      have g1 := frozen_blk hn1 1
      have g2 := frozen_blk hn1 2
      have g3 := frozen_blk hn1 3
      simp at d0 d1 d2 d3
      have c1 := hdr.cell 1 rfl
      have c2 := hdr.cell 2 rfl
      have f2 := hdr.fz 2
      have HX : Hid (stepF l 0 st0 = .fin (.bad 308)) := by
        show stepF l 0 st0 = _
        have h2 : lnL 8192 8193 (l.drop st0.at_) = .ok s := hx
        rw [stepF, h2]
        dsimp only
        rw [req_bare hbr]
      have HD := (show Hid _ from And.intro hdr ((Md.ofBelow HA.out.2).trans hm))
      clear hx hdr hm hn1
      unfold failS
      go_wp2
      refine bodyPost_ret (v := .tuple #[.agg #[.string ⟨#[]⟩, .string ⟨#[]⟩, .slice none 0 0, .slice none 0 0], .bool false]) (by simp [results, Tryz.results19, go_sem, d0, d1, d2, d3]) rfl ?_
      exact fin4 [] [] HX.out rfl (Dr.of (set_lst HD.out.1 2 _) rfl) (HD.out.2.setp _ _) HN.out hpN
    · obtain ⟨-, rfl, hdr, hm⟩ := hln
      have hs := (ln_ok hx).2.2.1
      simp only [List.drop_zero] at hs
      have HSt : Hid ((∀ e, reqL s = .bad e → stepF l 0 st0 = .fin (.bad e)) ∧ ∀ m t, reqL s = .ok m t → stepF l 0 st0 = .go 1 { st0 with at_ := 0 + (s.length + 2), head := 0 + (s.length + 2), m := m, t := t }) := by
        have h2 : lnL 8192 8193 (l.drop st0.at_) = .ok s := hx
        refine ⟨fun e he => ?_, fun m t he => ?_⟩ <;> rw [stepF, h2] <;> dsimp only <;> rw [he] <;> rfl
      have hn1 := keep_blk HA.out.1 hm (fun h => hNp h)
      have hw1 := (Md.ofBelow HA.out.2).trans hm
      obtain ⟨K, hK⟩ : ∃ K, K = 0 + (s.length + 2) := ⟨_, rfl⟩
      rw [← hK] at hdr HSt
      have c1 := hdr.cell 1 rfl
      have c2 := hdr.cell 2 rfl
      have f2 := hdr.fz 2
      have hd2 : Dr (w1.setCell ⟨p, 2, none⟩ (.int .i64 (K : Int))) p l K K 0 false 0 := Dr.of (set_lst hdr 2 _) rfl
      have hn2 := keep_blk hn1 ((Md.refl (· = p) w1).setp 2 (.int .i64 (K : Int))) (fun h => hNp h)
      have hm2 := hw1.setp 2 (.int .i64 (K : Int))
      have HSp := (show Hid _ from refSplit_any ⟨s.toArray⟩ 32 (w1.setCell ⟨p, 2, none⟩ (.int .i64 (K : Int))) (by rw [mk_size]; omega))
      have HW1 := (show Hid _ from And.intro hd2 (And.intro hn2 hm2))
      have hs9 : s.length ≤ 1000000000 := by omega
      clear hx hdr hm hn1 hw1 hd2 hn2 hm2 hK hs
      go_wp2_with fail
      refine Calls.mono HSp.out ?_
      clear HSp c1 c2 f2
      rintro e w2 ⟨v2, rfl, ho2, hb2⟩
      rw [splitS_toB] at ho2
      have hlt2 := fun j hj => (World.ownsRow.lt ho2 j hj).1
      obtain ⟨aP, cP, rfl, hs2⟩ := ho2.strs
      rw [toB_len]
      have hd2 := HW1.out.1.below hb2
      have hn2 := (hb2.block N (blk_lt HW1.out.2.1)).trans HW1.out.2.1
      have hm2 := HW1.out.2.2.below hb2
      have hp2 := HW1.out.1.lt
      have hNs := blk_lt HW1.out.2.1
      have HSz : Hid (∀ y ∈ splitL 32 s, y.length ≤ 1000000000) := fun y hy => Nat.le_trans (piece_size hy) hs9
      have HPl : Hid ((splitL 32 s).length ≤ 1000000001) := by
        show _ ≤ _
        rw [splitL_length]
        have := List.count_le_length (a := (32 : UInt8)) (l := s)
        omega
      clear HW1
      rcases req_parts s with ⟨m, t, v, hP, hq, -⟩ | ⟨h3, hq⟩
      · rw [hP] at hs2 HSz ⊢
        have hmz := HSz.out m (by simp)
        have htz := HSz.out t (by simp)
        have hvz := HSz.out v (by simp)
        obtain ⟨b, o, rfl, hbl, hcs⟩ : ∃ b o, aP = some ⟨b, o, none⟩ ∧ b < w2.heap.size ∧ ∀ j (h : j < (toB [m, t, v]).length), w2.cell? ⟨b, o + j, none⟩ = some (.string (toB [m, t, v])[j]) := by
          rcases hs2 with hnil | ⟨b, o, h1, h2, h3⟩
          · cases hnil
          · exact ⟨b, o, h1, h2, h3⟩
        have hbp : b ≠ p := by
          have := hlt2 b (by simp [Value.ownBlock])
          omega
        have hbN : b ≠ N := by
          have := hlt2 b (by simp [Value.ownBlock])
          have := hNs
          omega
        have e0 : w2.cell? ⟨b, o, none⟩ = some (.string ⟨m.toArray⟩) := hcs 0 (by simp [toB])
        have e1 : w2.cell? ⟨b, o + 1, none⟩ = some (.string ⟨t.toArray⟩) := hcs 1 (by simp [toB])
        have e2 : w2.cell? ⟨b, o + 2, none⟩ = some (.string ⟨v.toArray⟩) := hcs 2 (by simp [toB])
        have HW := (show Hid (∀ W, Md (· = p) w2 W → W.cell? ⟨b, o, none⟩ = some (.string ⟨m.toArray⟩) ∧ W.cell? ⟨b, o + 1, none⟩ = some (.string ⟨t.toArray⟩) ∧ W.cell? ⟨b, o + 2, none⟩ = some (.string ⟨v.toArray⟩) ∧ W.heap[N]? = some (.cells #[.string ⟨#[]⟩, .string ⟨#[]⟩, .slice none 0 0, .slice none 0 0] 25 (0, 0)) ∧ Md (· = p) w W) from fun W hW => by
          have hh : W.heap[b]? = w2.heap[b]? := hW.block b hbl hbp
          exact ⟨(World.cell?_of_block (w := w2) (a := ⟨b, o, none⟩) hh).trans e0, (World.cell?_of_block (w := w2) (a := ⟨b, o + 1, none⟩) hh).trans e1, (World.cell?_of_block (w := w2) (a := ⟨b, o + 2, none⟩) hh).trans e2, keep_blk hn2 hW (fun h => hNp h), hm2.trans hW⟩)
        have HQ := (show Hid _ from hq)
        have c5 := hd2.cell 5 rfl
        have f5 := hd2.fz 5
        have HD2 := (show Hid _ from hd2)
        have HTk := (show Hid (∀ W, Calls Tryz.prog 43 #[.string ⟨m.toArray⟩] W fun e w' => e = .returned (.bool (tokenB m)) ∧ W = w') from fun W => refToken_any ⟨m.toArray⟩ W (by rw [mk_size]; unfold maxLen; omega))
        clear hs2 HSz HPl hcs hlt2 ho2 hb2 hP hq
        have d0 := cell_blk hn2 0
        have d1 := cell_blk hn2 1
        have d2 := cell_blk hn2 2
        have d3 := cell_blk hn2 3
        have g0 := frozen_blk hn2 0
        have g1 := frozen_blk hn2 1
        have g2 := frozen_blk hn2 2
        have g3 := frozen_blk hn2 3
        simp at d0 d1 d2 d3
        have HM2 := (show Hid _ from hm2)
        clear hn2 hm2
        cases htk : tokenB m with
        | false =>
          rw [htk] at HTk
          have HX : Hid (stepF l 0 st0 = .fin (.bad 308)) := HSt.out.1 308 (by rw [HQ.out]; exact req_bad (by simp [metB, htk]))
          clear htk
          go_wp2_with (go_at_call 43; refine Calls.mono (HTk.out _) ?_; rintro e w' ⟨rfl, rfl⟩)
          refine bodyPost_ret (v := .tuple #[.agg #[.string ⟨#[]⟩, .string ⟨#[]⟩, .slice none 0 0, .slice none 0 0], .bool false]) (by simp [results, Tryz.results19, go_sem, d0, d1, d2, d3]) rfl ?_
          exact fin4 [] [] HX.out rfl (Dr.of (m := false) (set_lst HD2.out 5 _) rfl) (HM2.out.setp _ _) HN.out hpN
        | true =>
          rw [htk] at HTk
          by_cases hm16 : 16 < m.length
          · have HX : Hid (stepF l 0 st0 = .fin (.bad 308)) := HSt.out.1 308 (by rw [HQ.out]; exact req_bad (by simp [metB, show ¬ m.length ≤ 16 by omega]))
            clear htk
            go_wp2_with (go_at_call 43; refine Calls.mono (HTk.out _) ?_; rintro e w' ⟨rfl, rfl⟩)
            refine bodyPost_ret (v := .tuple #[.agg #[.string ⟨#[]⟩, .string ⟨#[]⟩, .slice none 0 0, .slice none 0 0], .bool false]) (by simp [results, Tryz.results19, go_sem, d0, d1, d2, d3]) rfl ?_
            exact fin4 [] [] HX.out rfl (Dr.of (m := false) (set_lst HD2.out 5 _) rfl) (HM2.out.setp _ _) HN.out hpN
          · by_cases ht0 : t = []
            · have HX : Hid (stepF l 0 st0 = .fin (.bad 308)) := HSt.out.1 308 (by rw [HQ.out]; exact req_bad (by simp [tarB, ht0]))
              subst ht0
              clear htk
              go_wp2_with (go_at_call 43; refine Calls.mono (HTk.out _) ?_; rintro e w' ⟨rfl, rfl⟩)
              refine bodyPost_ret (v := .tuple #[.agg #[.string ⟨#[]⟩, .string ⟨#[]⟩, .slice none 0 0, .slice none 0 0], .bool false]) (by simp [results, Tryz.results19, go_sem, d0, d1, d2, d3]) rfl ?_
              exact fin4 [] [] HX.out rfl (Dr.of (m := false) (set_lst HD2.out 5 _) rfl) (HM2.out.setp _ _) HN.out hpN
            · have hte : (t == []) = false := by rw [beq_eq_false_iff_ne]; exact ht0
              obtain ⟨T, hT⟩ : ∃ T : ByteArray, T = ⟨t.toArray⟩ := ⟨_, rfl⟩
              have hTz : T.size = t.length := by rw [hT, mk_size]
              have hTg : ∀ k (h : k < T.size), T[k] = t[k]'(by omega) := by subst hT; intro k h; rfl
              have HT : Hid (T = ⟨t.toArray⟩) := hT
              obtain ⟨V, hV⟩ : ∃ V : ByteArray, V = ⟨v.toArray⟩ := ⟨_, rfl⟩
              have hVz : V.size = v.length := by rw [hV, mk_size]
              have hVg : ∀ k (h : k < V.size), V[k] = v[k]'(by omega) := by subst hV; intro k h; rfl
              have hV5 : V.extract 0 5 = ⟨(v.take 5).toArray⟩ := by rw [hV, mk_ext]; simp
              have HV : Hid (V = ⟨v.toArray⟩) := hV
              have hTe : T.toList.isEmpty = false := by
                rw [hT, Lib.toList_data]
                cases t with
                | nil => exact absurd rfl ht0
                | cons a r => rfl
              have hMet : metB m = true := by simp [metB, htk]; omega
              have HRq : Hid (reqL s = if (tarB t && verB v) = false then .bad 308 else if v ≠ http11 then .bad 340 else if t.getD 0 0 ≠ 47 ∧ t ≠ [42] then .bad 331 else .ok m t) := by
                show reqL s = _
                rw [HQ.out, reqP, hMet, Bool.true_and]
              have htar : tarB t = t.all tarC := by
                have : 0 < t.length := List.length_pos_iff.2 ht0
                simp [tarB, this]
              have HTar : Hid (tarB t = t.all tarC) := htar
              have hT0 : 0 < t.length := List.length_pos_iff.2 ht0
              have ht0' := (show Hid _ from ht0)
              have HWT := (show Hid (∀ W, Md (· = p) w2 W → W.cell? ⟨b, o, none⟩ = some (.string ⟨m.toArray⟩) ∧ W.cell? ⟨b, o + 1, none⟩ = some (.string T) ∧ W.cell? ⟨b, o + 2, none⟩ = some (.string V) ∧ W.heap[N]? = some (.cells #[.string ⟨#[]⟩, .string ⟨#[]⟩, .slice none 0 0, .slice none 0 0] 25 (0, 0)) ∧ Md (· = p) w W) from fun W hW => by rw [hT, hV]; exact HW.out W hW)
              have hm16' : (m.length : Int) ≤ 16 := by omega
              have htz' : (t.length : Int) ≤ 1000000000 := by omega
              rw [← hT] at e1
              clear htk hMet htar HW HQ ht0 hT hV hte e2
              go_wp2_with (go_at_call 43; refine Calls.mono (HTk.out _) ?_; rintro e w' ⟨rfl, rfl⟩)
              clear c5 f5 e0 e1 d0 d1 d2 d3 g0 g1 g2 g3
              go_loopw [7] (fun i wr => ∃ (j : Nat) (x : Int), j ≤ t.length ∧ i = .int .i64 j ∧ Hid (x = if (t.take j).all tarC then 0 else 308) ∧ Dr wr p l K K 0 false x ∧ Md (· = p) w2 wr) (fun i _ => t.length - (intOf i).toNat)
              case atStart => exact ⟨0, 0, Nat.zero_le _, rfl, by show 0 = _; simp, HD2.out, Md.refl _ _⟩
              case round =>
                obtain ⟨j, x, hj, rfl, hx, hdj, hmj⟩ := hrel
                obtain ⟨e0, e1, e2, hnj, hwj⟩ := HWT.out wr hmj
                have c5 := hdj.cell 5 rfl
                have f5 := hdj.fz 5
                by_cases hlt : j < t.length
                · have hji : (j : Int) < (T.size : Int) := by omega
                  have hj0 : (0 : Int) ≤ (j : Int) := by omega
                  have hg := hTg j (by omega)
                  have b1 : (T[j].toNat : Int) ≤ 255 := by have := T[j].toNat_lt; omega
                  have HA1 : Hid ((t.take (j + 1)).all tarC = ((t.take j).all tarC && tarC t[j])) := by
                    show _ = _
                    rw [List.take_succ_eq_append_getElem hlt, List.all_append]
                    simp
                  have HDj := (show Hid _ from And.intro hdj hmj)
                  have htc : tarC t[j] = decide (33 ≤ T[j].toNat ∧ T[j].toNat ≤ 126) := by rw [hg]; rfl
                  by_cases hlo : (T[j].toNat : Int) < 33
                  · have HX2 : Hid ((308 : Int) = if (t.take (j + 1)).all tarC then 0 else 308) := by
                      show _ = _
                      rw [HA1.out, htc, decide_eq_false (by omega)]
                      simp
                    clear hg htc hTg hVg hdj hmj hnj hwj
                    go_wp2
                    go_roundw
                    case rel => exact ⟨j + 1, 308, by omega, by go_num, HX2, Dr.of (set_lst HDj.out.1 5 _) rfl, HDj.out.2.setp _ _⟩
                    case measure => simp [intOf]; omega
                  · by_cases hhi : 126 < (T[j].toNat : Int)
                    · have HX2 : Hid ((308 : Int) = if (t.take (j + 1)).all tarC then 0 else 308) := by
                        show _ = _
                        rw [HA1.out, htc, decide_eq_false (by omega)]
                        simp
                      clear hg htc hTg hVg hdj hmj hnj hwj
                      go_wp2
                      go_roundw
                      case rel => exact ⟨j + 1, 308, by omega, by go_num, HX2, Dr.of (set_lst HDj.out.1 5 _) rfl, HDj.out.2.setp _ _⟩
                      case measure => simp [intOf]; omega
                    · have HX2 : Hid (x = if (t.take (j + 1)).all tarC then 0 else 308) := by
                        show x = _
                        rw [HA1.out, htc, decide_eq_true (by omega), Bool.and_true]
                        exact hx.out
                      clear hg htc hTg hVg hdj hmj hnj hwj
                      go_wp2
                      go_roundw
                      case rel => exact ⟨j + 1, x, by omega, by go_num, HX2, HDj.out.1, HDj.out.2⟩
                      case measure => simp [intOf]; omega
                · obtain rfl : j = t.length := by omega
                  have hji : ¬ ((t.length : Int) < (T.size : Int)) := by omega
                  have HX1 : Hid (x = if t.all tarC then 0 else 308) := by
                    show x = _
                    have := hx.out
                    rw [List.take_length] at this
                    exact this
                  have HDj := (show Hid _ from And.intro hdj hwj)
                  have d0 := cell_blk hnj 0
                  have d1 := cell_blk hnj 1
                  have d2 := cell_blk hnj 2
                  have d3 := cell_blk hnj 3
                  have g0 := frozen_blk hnj 0
                  have g1 := frozen_blk hnj 1
                  have g2 := frozen_blk hnj 2
                  have g3 := frozen_blk hnj 3
                  simp at d0 d1 d2 d3
                  have HDg := (show Hid (∀ c : UInt8, ∀ W, Calls Tryz.prog 44 #[.int .u8 (c.toNat : Int)] W fun e w' => e = .returned (.bool (digB (c.toNat : Int))) ∧ W = w') from fun c W => digitR_any _ W (Int.natCast_nonneg _) (by have := c.toNat_lt; omega))
                  have HSx := (show Hid (∀ W y, Dr W p l K K 0 false y → Md (· = p) w2 W → W.cell? ⟨b, o, none⟩ = some (.string ⟨m.toArray⟩) ∧ W.cell? ⟨b, o + 1, none⟩ = some (.string T) ∧ W.cell? ⟨p, 5, none⟩ = some (.int .i64 y)) from fun W y h1 h2 => ⟨(HWT.out W h2).1, (HWT.out W h2).2.1, h1.cell 5 rfl⟩)
                  have HDm := (show Hid _ from And.intro hdj hmj)
                  have HDm := (show Hid _ from And.intro hdj hmj)
                  clear hdj hmj hnj hwj hx hTe
                  go_upto_region 15 with fail
                  go_cut [105] from 81 to 104 (fun s wc => s = .bool (!(verB v)) ∧ wc = wr)
                  case first =>
                    by_cases hv8 : v.length = 8
                    · have hv8' : ((v.length : Int) != 8) = false := by rw [hv8]; rfl
                      have hVs : V.size = 8 := by omega
                      by_cases hv5 : v.take 5 = httpT
                      · have hv5' : (v.take 5 == [72, 84, 84, 80, 47]) = true := by rw [hv5]; rfl
                        have hpre : httpT.isPrefixOf v = true := by rw [List.isPrefixOf_iff_prefix, ← hv5]; exact List.take_prefix _ _
                        have hver : verB v = (digB (V[5].toNat : Int) && decide (V[6].toNat = 46) && digB (V[7].toNat : Int)) := by
                          rw [verB, hpre, hVg 5 (by omega), hVg 6 (by omega), hVg 7 (by omega)]
                          simp [hv8, List.getD]
                        cases h5 : digB (V[5].toNat : Int) with
                        | false =>
                          have hvf : verB v = false := by rw [hver, h5]; rfl
                          have HD5 := (show Hid (∀ W, Calls Tryz.prog 44 #[.int .u8 (V[5].toNat : Int)] W fun e w' => e = .returned (.bool false) ∧ W = w') from fun W => by rw [← h5]; exact HDg.out _ W)
                          have HVF := (show Hid _ from hvf)
                          clear hvf hver hpre hv5 h5 hVg
                          go_wp2_with (go_at_call 44; refine Calls.mono (HD5.out _) ?_; rintro e w' ⟨rfl, rfl⟩)
                          go_meet
                          case rel => exact ⟨by rw [HVF.out]; rfl, rfl⟩
                        | true =>
                          have HD5 := (show Hid (∀ W, Calls Tryz.prog 44 #[.int .u8 (V[5].toNat : Int)] W fun e w' => e = .returned (.bool true) ∧ W = w') from fun W => by rw [← h5]; exact HDg.out _ W)
                          by_cases h6 : V[6].toNat = 46
                          · have h6' : ((V[6].toNat : Int) != 46) = false := by rw [h6]; rfl
                            have HD7 := (show Hid (∀ W, Calls Tryz.prog 44 #[.int .u8 (V[7].toNat : Int)] W fun e w' => e = .returned (.bool (verB v)) ∧ W = w') from fun W => by
                              have : verB v = digB (V[7].toNat : Int) := by rw [hver, h5, h6]; simp
                              rw [this]
                              exact HDg.out _ W)
                            generalize verB v = vv at *
                            clear hver hpre hv5 h5 hVg h6
                            go_wp2_with (first
                              | (go_at_call 44; (with_reducible refine Calls.mono (HD5.out _) ?_); rintro e w' ⟨rfl, rfl⟩)
                              | (go_at_call 44; (with_reducible refine Calls.mono (HD7.out _) ?_); rintro e w' ⟨rfl, rfl⟩))
                            go_meet
                            case rel => exact ⟨by cases vv <;> rfl, rfl⟩
                          · have h6' : ((V[6].toNat : Int) != 46) = true := by rw [bne_iff_ne]; omega
                            have hvf : verB v = false := by rw [hver, decide_eq_false h6]; simp
                            have HVF := (show Hid _ from hvf)
                            clear hvf hver hpre hv5 h5 hVg h6
                            go_wp2_with (go_at_call 44; refine Calls.mono (HD5.out _) ?_; rintro e w' ⟨rfl, rfl⟩)
                            go_meet
                            case rel => exact ⟨by rw [HVF.out]; rfl, rfl⟩
                      · have hv5' : (v.take 5 == [72, 84, 84, 80, 47]) = false := by rw [beq_eq_false_iff_ne]; exact hv5
                        have hvf : verB v = false := by
                          cases h : verB v with
                          | false => rfl
                          | true =>
                            obtain ⟨a, c, rfl, -, -⟩ := ver_split h
                            exact absurd (by simp [httpT]) hv5
                        have HVF := (show Hid _ from hvf)
                        clear hvf hVg hv5
                        go_wp2
                        go_meet
                        case rel => exact ⟨by rw [HVF.out]; rfl, rfl⟩
                    · have hvf : verB v = false := by simp [verB, hv8]
                      have hv8' : ((v.length : Int) != 8) = true := by rw [bne_iff_ne]; omega
                      have HVF := (show Hid _ from hvf)
                      clear hvf hVg
                      go_wp2
                      go_meet
                      case rel => exact ⟨by rw [HVF.out]; rfl, rfl⟩
                  case rest =>
                    obtain ⟨rfl, rfl⟩ := hcut
                    clear hVg hV5 HDg
                    obtain ⟨vv, hvv⟩ : ∃ vv, vv = verB v := ⟨_, rfl⟩
                    rw [← hvv]
                    have HVV := (show Hid _ from hvv)
                    clear hvv
                    obtain ⟨y1, hy1⟩ : ∃ y1 : Int, y1 = if vv then x else 308 := ⟨_, rfl⟩
                    have HY1 := (show Hid _ from hy1)
                    clear hy1
                    go_upto_if 105 with fail
                    go_cut [] from 106 to 108 (fun w' => Dr w' p l K K 0 false y1 ∧ Md (· = p) w2 w')
                    case first =>
                      cases vv with
                      | true =>
                        have HYX : Hid (y1 = x) := by show y1 = x; rw [HY1.out]; rfl
                        go_wp2
                        go_meet
                        case rel => exact ⟨by rw [HYX.out]; exact HDm.out.1, HDm.out.2⟩
                      | false =>
                        have HYX : Hid (y1 = 308) := by show y1 = 308; rw [HY1.out]; rfl
                        go_wp2
                        go_meet
                        case rel => exact ⟨by rw [HYX.out]; exact Dr.of (set_lst HDm.out.1 5 _) rfl, HDm.out.2.setp _ _⟩
                    case rest =>
                      clear c5 f5 e0 e1 e2 d0 d1 d2 d3 g0 g1 g2 g3
                      obtain ⟨hdx, hmx⟩ := hcut
                      have HDx := (show Hid _ from And.intro hdx hmx)
                      have c5 := hdx.cell 5 rfl
                      have f5 := hdx.fz 5
                      obtain ⟨e0, e1, e2, -, -⟩ := HWT.out _ hmx
                      clear hdx hmx
                      go_upto_region 17 with fail
                      go_cut [117] from 109 to 116 (fun s w' => s = .bool (decide (y1 = 0 ∧ v ≠ http11)) ∧ w' = wc)
                      case first =>
                        by_cases hy0 : y1 = 0
                        · subst hy0
                          by_cases hv1 : v = http11
                          · have hvb : (V.toList == [72, 84, 84, 80, 47, 49, 46, 49]) = true := by rw [HV.out, Lib.toList_data, hv1]; rfl
                            have HV1 := (show Hid _ from hv1)
                            clear hv1
                            go_wp2
                            go_meet
                            case rel => exact ⟨by rw [decide_eq_false (fun h => h.2 HV1.out)] <;> rfl, rfl⟩
                          · have hvb : (V.toList == [72, 84, 84, 80, 47, 49, 46, 49]) = false := by rw [HV.out, Lib.toList_data, beq_eq_false_iff_ne]; exact hv1
                            have HV1 := (show Hid _ from hv1)
                            clear hv1
                            go_wp2
                            go_meet
                            case rel => exact ⟨by rw [decide_eq_true (by first | exact ⟨rfl, HV1.out⟩ | exact ⟨trivial, HV1.out⟩)] <;> rfl, rfl⟩
                        · have hyb : (y1 == 0) = false := by rw [beq_eq_false_iff_ne]; exact hy0
                          have HY0 := (show Hid _ from hy0)
                          clear hy0
                          go_wp2
                          go_meet
                          case rel => exact ⟨by rw [decide_eq_false (fun h => HY0.out h.1)] <;> rfl, rfl⟩
                      case rest =>
                        obtain ⟨rfl, rfl⟩ := hcut
                        obtain ⟨b2, hb2⟩ : ∃ b2, b2 = decide (y1 = 0 ∧ v ≠ http11) := ⟨_, rfl⟩
                        rw [← hb2]
                        have HB2 := (show Hid _ from hb2)
                        clear hb2
                        obtain ⟨y2, hy2⟩ : ∃ y2 : Int, y2 = if b2 then 340 else y1 := ⟨_, rfl⟩
                        have HY2 := (show Hid _ from hy2)
                        clear hy2
                        go_upto_if 117 with fail
                        go_cut [] from 118 to 120 (fun w' => Dr w' p l K K 0 false y2 ∧ Md (· = p) w2 w')
                        case first =>
                          cases b2 with
                          | true =>
                            have HYX : Hid (y2 = 340) := by show y2 = 340; rw [HY2.out]; rfl
                            go_wp2
                            go_meet
                            case rel => exact ⟨by rw [HYX.out]; exact Dr.of (set_lst HDx.out.1 5 _) rfl, HDx.out.2.setp _ _⟩
                          | false =>
                            have HYX : Hid (y2 = y1) := by show y2 = y1; rw [HY2.out]; rfl
                            go_wp2
                            go_meet
                            case rel => exact ⟨by rw [HYX.out]; exact HDx.out.1, HDx.out.2⟩
                        case rest =>
                          clear c5 f5 e0 e1 e2
                          obtain ⟨hdy, hmy⟩ := hcut
                          have HDy := (show Hid _ from And.intro hdy hmy)
                          have c5 := hdy.cell 5 rfl
                          have f5 := hdy.fz 5
                          obtain ⟨e0, e1, e2, -, -⟩ := HWT.out _ hmy
                          clear hdy hmy
                          have hg0 := hTg 0 (by omega)
                          have hTp : (0 : Int) < (T.size : Int) := by omega
                          have ht00 : t.getD 0 0 = t[0] := by simp [List.getD, List.getElem?_eq_getElem hT0]
                          go_upto_region 19 with fail
                          go_cut [138] from 121 to 137 (fun s w' => s = .bool (decide (y2 = 0 ∧ (t.getD 0 0 ≠ 47 ∧ t ≠ [42]))) ∧ w' = wc)
                          case first =>
                            by_cases hy0 : y2 = 0
                            · subst hy0
                              by_cases h47 : t.getD 0 0 = 47
                              · have hcb : (((T[0]).toNat : Int) != 47) = false := by rw [hg0, ← ht00, h47]; rfl
                                have HV1 := (show Hid _ from h47)
                                clear h47 hg0 ht00 hTg
                                go_wp2
                                go_meet
                                case rel => exact ⟨by rw [decide_eq_false (fun h => h.2.1 HV1.out)] <;> rfl, rfl⟩
                              · have hcb : (((T[0]).toNat : Int) != 47) = true := by
                                  rw [hg0, bne_iff_ne]
                                  intro h
                                  apply h47
                                  rw [ht00]
                                  apply UInt8.toNat.inj
                                  have : (47 : UInt8).toNat = 47 := rfl
                                  omega
                                by_cases hst : t = [42]
                                · have hvb : (T.toList == [42]) = true := by rw [HT.out, Lib.toList_data, hst]; rfl
                                  have HV1 := (show Hid _ from hst)
                                  clear h47 hg0 ht00 hTg hst
                                  go_wp2
                                  go_meet
                                  case rel => exact ⟨by rw [decide_eq_false (fun h => h.2.2 HV1.out)] <;> rfl, rfl⟩
                                · have hvb : (T.toList == [42]) = false := by rw [HT.out, Lib.toList_data, beq_eq_false_iff_ne]; exact hst
                                  have HV1 := (show Hid _ from And.intro h47 hst)
                                  clear h47 hg0 ht00 hTg hst
                                  go_wp2
                                  go_meet
                                  case rel => exact ⟨by rw [decide_eq_true (by first | exact ⟨rfl, HV1.out⟩ | exact ⟨trivial, HV1.out⟩)] <;> rfl, rfl⟩
                            · have hyb : (y2 == 0) = false := by rw [beq_eq_false_iff_ne]; exact hy0
                              have HY0 := (show Hid _ from hy0)
                              clear hy0 hTg hg0 ht00
                              go_wp2
                              go_meet
                              case rel => exact ⟨by rw [decide_eq_false (fun h => HY0.out h.1)] <;> rfl, rfl⟩
                          case rest =>
                            obtain ⟨rfl, rfl⟩ := hcut
                            clear hg0 ht00 hTg
                            obtain ⟨b3, hb3⟩ : ∃ b3, b3 = decide (y2 = 0 ∧ (t.getD 0 0 ≠ 47 ∧ t ≠ [42])) := ⟨_, rfl⟩
                            rw [← hb3]
                            have HB3 := (show Hid _ from hb3)
                            clear hb3
                            obtain ⟨y3, hy3⟩ : ∃ y3 : Int, y3 = if b3 then 331 else y2 := ⟨_, rfl⟩
                            have HY3 := (show Hid _ from hy3)
                            clear hy3
                            go_upto_if 138 with fail
                            go_cut [] from 139 to 141 (fun w' => Dr w' p l K K 0 false y3 ∧ Md (· = p) w2 w')
                            case first =>
                              cases b3 with
                              | true =>
                                have HYX : Hid (y3 = 331) := by show y3 = 331; rw [HY3.out]; rfl
                                go_wp2
                                go_meet
                                case rel => exact ⟨by rw [HYX.out]; exact Dr.of (set_lst HDy.out.1 5 _) rfl, HDy.out.2.setp _ _⟩
                              | false =>
                                have HYX : Hid (y3 = y2) := by show y3 = y2; rw [HY3.out]; rfl
                                go_wp2
                                go_meet
                                case rel => exact ⟨by rw [HYX.out]; exact HDy.out.1, HDy.out.2⟩
                            case rest =>
                              clear c5 f5 e0 e1 e2
                              obtain ⟨hdz, hmz2⟩ := hcut
                              have HDz := (show Hid _ from hdz)
                              have c5 := hdz.cell 5 rfl
                              have f5 := hdz.fz 5
                              obtain ⟨e0, e1, e2, hnz, hwz⟩ := HWT.out _ hmz2
                              have HMz := (show Hid _ from hwz)
                              have hRq := HRq.out
                              rw [HTar.out, ← HVV.out] at hRq
                              have HR := (show Hid _ from first_math hRq HX1.out HY1.out HB2.out HY2.out HB3.out HY3.out)
                              have d0 := cell_blk hnz 0
                              have d1 := cell_blk hnz 1
                              have d2 := cell_blk hnz 2
                              have d3 := cell_blk hnz 3
                              have g0 := frozen_blk hnz 0
                              have g1 := frozen_blk hnz 1
                              have g2 := frozen_blk hnz 2
                              have g3 := frozen_blk hnz 3
                              simp at d0 d1 d2 d3
                              clear hRq hdz hmz2 hnz hwz HDx HDy HDm HDj HD2 HM2 HY1 HY2 HY3 HB2 HB3 HX1 HVV HRq HTar HWT
                              obtain ⟨zb, hzb⟩ : ∃ zb, zb = (y3 == 0) := ⟨_, rfl⟩
                              have HZB := (show Hid _ from hzb)
                              have hzb' : (y3 == 0) = zb := hzb.symm
                              clear hzb
                              go_wp2
                              go_region_with (fail)
                              all_goals
                                go_wp2
                                refine bodyPost_ret (v := .tuple #[.agg #[.string ⟨m.toArray⟩, .string T, .slice none 0 0, .slice none 0 0], .bool zb]) (by simp [results, Tryz.results19, go_sem, d0, d1, d2, d3]) rfl ?_
                                exact end4 HZB.out (fun h => HSt.out.2 m t (HR.out.1 h)) (fun h => HSt.out.1 y3 (HR.out.2 h)) ⟨rfl, rfl, rfl, rfl, rfl⟩ HT.out HDz.out HMz.out HN.out hpN
      · have HX : Hid (stepF l 0 st0 = .fin (.bad 308)) := HSt.out.1 308 hq
        have hpl := HPl.out
        generalize (splitL 32 s).length = np at *
        have hnb : ((np : Int) != 3) = true := by rw [bne_iff_ne]; omega
        have c5 := hd2.cell 5 rfl
        have f5 := hd2.fz 5
        have HD2 := (show Hid _ from hd2)
        have HM2 := (show Hid _ from hm2)
        have d0 := cell_blk hn2 0
        have d1 := cell_blk hn2 1
        have d2 := cell_blk hn2 2
        have d3 := cell_blk hn2 3
        have g0 := frozen_blk hn2 0
        have g1 := frozen_blk hn2 1
        have g2 := frozen_blk hn2 2
        have g3 := frozen_blk hn2 3
        simp at d0 d1 d2 d3
        clear hs2 HSz HPl hlt2 ho2 hb2 hq hn2 hm2 hd2 h3
        go_wp2
        refine bodyPost_ret (v := .tuple #[.agg #[.string ⟨#[]⟩, .string ⟨#[]⟩, .slice none 0 0, .slice none 0 0], .bool false]) (by simp [results, Tryz.results19, go_sem, d0, d1, d2, d3]) rfl ?_
        exact fin4 [] [] HX.out rfl (Dr.of (m := false) (set_lst HD2.out 5 _) rfl) (HM2.out.setp _ _) HN.out hpN
end Go.Proofs.YtmodmeabjhaklabGreatDoor
