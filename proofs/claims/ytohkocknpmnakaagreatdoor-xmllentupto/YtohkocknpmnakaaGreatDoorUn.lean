/-
  xml.Unescape.
-/
import Derived.Test.YtohkocknpmnakaaGreatDoorUnM
import Derived.Lib.SplitLaws
namespace Go.Proofs.YtohkocknpmnakaaGreatDoor
open Go.RowKit

/-- A text, or none. -/
def UsR (o : Option (List UInt8)) (e : Ending) : Prop :=
  (∃ t, o = some t ∧ e = .returned (.tuple #[.string ⟨t.toArray⟩, .bool true])) ∨ (o = none ∧ e = .returned (.tuple #[.string ⟨#[]⟩, .bool false]))
theorem ws_any (B : Nat) (W : World) (bl : List UInt8) (x : ByteArray) (h : Lib.IsBuilderF 66 5 B B (Lib.byteCells bl) W) (hlen : bl.length + x.size ≤ 140737488355328) (hB : B ≤ W.heap.size) :
    Calls Tryz.prog 35 #[.pointer (some ⟨B, 0, none⟩), .string x] W fun e w' => e = .returned (.tuple #[.int .i64 x.size, .nilIface]) ∧ Lib.IsBuilderF 66 5 B B (Lib.byteCells (bl ++ x.data.toList)) w' ∧ Below B W w' ∧ Lib.OthersKept 5 (some B) W w' := by
  refine (Builder_WriteString B B (Lib.byteCells bl) x W h (by rw [Lib.byteCells_length]; exact hlen) hB).mono ?_
  rintro e w' ⟨rfl, h1, h2, h3⟩
  refine ⟨rfl, .inr ?_, h2, h3⟩
  have : Lib.byteCells (bl ++ x.data.toList) = Lib.byteCells bl ++ Lib.strCells x := by
    rw [Lib.strCells_eq]
    simp [Lib.byteCells]
  rw [this]
  exact h1
theorem wr_any (B : Nat) (W : World) (bl : List UInt8) (n : Nat) (hn : n ≤ 1114111) (h : Lib.IsBuilderF 66 5 B B (Lib.byteCells bl) W) (hlen : bl.length + 4 ≤ 140737488355328) (hB : B ≤ W.heap.size) :
    Calls Tryz.prog 43 #[.pointer (some ⟨B, 0, none⟩), .int .i32 (n : Int)] W fun e w' => e = .returned (.tuple #[.int .i64 (Lib.runeCells (n : Int)).length, .nilIface]) ∧ Lib.IsBuilderF 66 5 B B (Lib.byteCells (bl ++ Lib.encodeRune (n : Int))) w' ∧ Below B W w' ∧ Lib.OthersKept 5 (some B) W w' := by
  refine (Builder_WriteRune B B (Lib.byteCells bl) (n : Int) (by omega) (by omega) W h (by rw [Lib.byteCells_length]; exact hlen) hB).mono ?_
  rintro e w' ⟨rfl, h1, h2, h3⟩
  refine ⟨rfl, .inr ?_, h2, h3⟩
  have : Lib.byteCells (bl ++ Lib.encodeRune (n : Int)) = Lib.byteCells bl ++ Lib.runeCells (n : Int) := by
    rw [← Lib.byteCells_encodeRune]
    simp [Lib.byteCells]
  rw [this]
  exact h1
theorem repl_any (x : List UInt8) (old : List UInt8) (ho : 1 ≤ old.length) (W : World) (hm : Mx W) (hx : x.length < 4294967280) :
    Calls Tryz.prog 41 #[.string ⟨x.toArray⟩, .string ⟨old.toArray⟩, .string ⟨#[10]⟩] W fun e w' => e = .returned (.string ⟨(Lib.replaceAll x old [10]).toArray⟩) ∧ Below W.heap.size W w' := by
  obtain ⟨m, h0⟩ := hm
  have hc := Lib.countB_le ⟨old.toArray⟩ (by rw [mk_size]; exact ho) _ ⟨x.toArray⟩ (Nat.le_refl _)
  refine strings_ReplaceAll ⟨x.toArray⟩ ⟨old.toArray⟩ ⟨#[10]⟩ m W (by rw [mk_size]; omega) h0 (by rw [mk_size]; exact ho) ?_
  rw [mk_size] at hc ⊢
  have e1 : (⟨#[10]⟩ : ByteArray).size = 1 := rfl
  rw [e1]
  omega
theorem entN_ch {a : List UInt8} {n : Nat} (h : entN a = some n) : n ≤ 1114111 := by
  unfold entN at h
  have key : ∀ b ds, numN b ds = some n → n ≤ 1114111 := by
    intro b ds hh
    unfold numN at hh
    split at hh
    · simp only [Option.bind_eq_some_iff] at hh
      obtain ⟨k, h1, h2⟩ := hh
      split at h2
      · next hc => cases h2; have := ch_valid hc; omega
      · cases h2
    · cases hh
  by_cases h1 : a = [97, 109, 112]
  · rw [if_pos h1] at h; cases h; decide
  · rw [if_neg h1] at h
    by_cases h2 : a = [108, 116]
    · rw [if_pos h2] at h; cases h; decide
    · rw [if_neg h2] at h
      by_cases h3 : a = [103, 116]
      · rw [if_pos h3] at h; cases h; decide
      · rw [if_neg h3] at h
        by_cases h4 : a = [113, 117, 111, 116]
        · rw [if_pos h4] at h; cases h; decide
        · rw [if_neg h4] at h
          by_cases h5 : a = [97, 112, 111, 115]
          · rw [if_pos h5] at h; cases h; decide
          · rw [if_neg h5] at h
            cases hx : eat [35, 120] a with
            | some ds => rw [hx] at h; exact key _ _ h
            | none =>
              rw [hx] at h
              cases hy : eat [35] a with
              | none => rw [hy] at h; cases h
              | some ds => rw [hy] at h; exact key _ _ h
theorem refN_ch {r : List UInt8} {n k : Nat} (h : refN r = some (n, k)) : n ≤ 1114111 := by
  unfold refN at h
  split at h
  · cases h
  · simp only [Option.map_eq_some_iff, Prod.mk.injEq] at h
    obtain ⟨n', h1, rfl, rfl⟩ := h
    exact entN_ch h1
set_option maxRecDepth 20000 in
set_option maxHeartbeats 3200000 in
theorem unescape_any (l : List UInt8) (w : World) (hl : l.length < 4294967280) (hm : Mx w) (he : Er w) :
    Calls Tryz.prog 20 #[.string ⟨l.toArray⟩] w fun e w' => UsR (une l) e ∧ Below w.heap.size w w' := by
  have hb0 : Below w.heap.size w (w.alloc (.cells #[.pointer none, .slice none 0 0] 66)) := (Below.refl _ _).alloc (Nat.le_refl _) _
  have hm0 := hm.md (Md.ofBelow (F := fun _ => False) hb0) (fun h => h)
  have HR1 := repl_any l [13, 10] (by decide) _ hm0 hl
  have hl1 := replace_len l
  obtain ⟨x1, hx1⟩ : ∃ x1, x1 = Lib.replaceAll l [13, 10] [10] := ⟨_, rfl⟩
  have HR2 := (show Hid (∀ W, Mx W → Calls Tryz.prog 41 #[.string ⟨x1.toArray⟩, .string ⟨#[13]⟩, .string ⟨#[10]⟩] W fun e w' => e = .returned (.string ⟨(crL l).toArray⟩) ∧ Below W.heap.size W w') from fun W hW => by
    have := repl_any x1 [13] (by decide) W hW (by rw [hx1]; omega)
    rw [hx1, replace_cr] at this
    rw [hx1]
    exact this)
  rw [← hx1] at HR1
  have hcl := crL_len _ l (Nat.le_refl _)
  obtain ⟨O, hO⟩ : ∃ O, O = une l := ⟨_, rfl⟩
  rw [← hO]
  have HO : Hid (O = unL (crL l)) := hO
  have hi0 := isB_new w
  obtain ⟨m, hmm⟩ : ∃ m, m = crL l := ⟨_, rfl⟩
  rw [← hmm] at HR2 HO hcl
  obtain ⟨s, hs⟩ : ∃ s : ByteArray, s = ⟨m.toArray⟩ := ⟨_, rfl⟩
  rw [← hs] at HR2
  have HS : Hid (s = ⟨m.toArray⟩ ∧ s.size = m.length ∧ s.data.toList = m) := ⟨hs, by rw [hs, mk_size], by rw [hs]⟩
  have hsl : s.size < 4294967280 := by rw [HS.out.2.1]; omega
  have H0 : Hid (Mx w ∧ Er w) := ⟨hm, he⟩
  have HI0 : Hid (Lib.IsBuilderF 66 5 w.heap.size w.heap.size [] (w.alloc (.cells #[.pointer none, .slice none 0 0] 66)) ∧ Below w.heap.size w (w.alloc (.cells #[.pointer none, .slice none 0 0] 66)) ∧ Mx (w.alloc (.cells #[.pointer none, .slice none 0 0] 66))) := ⟨hi0, hb0, hm0⟩
  clear hs hmm hx1 hO hi0 hb0 hm0 hl1 hcl hl hm he
  go_enter Tryz.func20, Tryz.ntmps20
  go_wp2_with fail
  refine wp_scope_ahead 0 rfl ?_
  go_wp2_with fail
  refine HR1.mono ?_
  rintro e w1 ⟨rfl, hb1⟩
  have HI1 : Hid (Lib.IsBuilderF 66 5 w.heap.size w.heap.size [] w1 ∧ Below w.heap.size w w1 ∧ Mx w1) := ⟨isB_below HI0.out.1 hb1, HI0.out.2.1.trans (hb1.mono HI0.out.2.1.size), HI0.out.2.2.md (Md.ofBelow (F := fun _ => False) hb1) (fun h => h)⟩
  clear hb1 HR1 HI0
  go_wp2_with fail
  refine (HR2.out _ HI1.out.2.2).mono ?_
  rintro e w2 ⟨rfl, hb2⟩
  have HI2 : Hid (Lib.IsBuilderF 66 5 w.heap.size w.heap.size [] w2 ∧ Below w.heap.size w w2) := ⟨isB_below HI1.out.1 hb2, HI1.out.2.1.trans (hb2.mono HI1.out.2.1.size)⟩
  clear hb2 HR2 HI1
  go_wp2_with fail
  obtain ⟨I, hI⟩ : ∃ I, I = w2.heap.size := ⟨_, rfl⟩
  have HI3 : Hid (Lib.IsBuilderF 66 5 w.heap.size w.heap.size (Lib.byteCells []) (w2.iter s 0) ∧ Below w.heap.size w (w2.iter s 0) ∧ (w2.iter s 0).heap[I]? = some (.stringIter s 0) ∧ I ≠ w.heap.size ∧ w.heap.size ≤ I) := by
    have hbi : Below w2.heap.size w2 (w2.iter s 0) := (Below.refl _ _).alloc (Nat.le_refl _) _
    have hbl : w.heap.size < w2.heap.size := by
      rcases HI2.out.1 with ⟨_, v, h2, _⟩ | ⟨_, v, h2, _⟩ <;> exact blk_lt h2
    exact ⟨isB_below HI2.out.1 hbi, HI2.out.2.trans (hbi.mono HI2.out.2.size), by rw [hI]; exact World.iter_heap w2 s 0, by omega, by omega⟩
  rw [← hI]
  clear hI HI2
  generalize w2.iter s 0 = w3 at *
  obtain ⟨B, hB⟩ : ∃ B, B = w.heap.size := ⟨_, rfl⟩
  rw [← hB] at HI3
  have HB : Hid (B = w.heap.size) := hB
  rw [← hB]
  clear hB
  go_loopg [5] s.size (fun gf dn wx => ∃ (pos d : Nat) (bl : List UInt8), pos ≤ s.size ∧ d ≤ s.size ∧ s.size ≤ pos + gf ∧ dn = .int .i64 d ∧ wx.heap[I]? = some (.stringIter s pos) ∧ Lib.IsBuilderF 66 5 B B (Lib.byteCells bl) wx ∧ Below B w wx ∧ UI m pos d bl)
  case atStart => exact ⟨0, 0, [], Nat.zero_le _, Nat.zero_le _, by omega, rfl, HI3.out.2.2.1, HI3.out.1, HI3.out.2.1, UI.start m⟩
  case round =>
    obtain ⟨pos, d, bl, hps, hds, hfu, rfl, hit, hbu, hbw, hui⟩ := hrel
    have hBw : B ≤ wr.heap.size := Nat.le_trans (by rw [HB.out]; exact Nat.le_refl _) hbw.size
    have hmlen : m.length = s.size := HS.out.2.1.symm
    by_cases hlt : pos < s.size
    · obtain ⟨g', rfl⟩ : ∃ g', gk = g' + 1 := ⟨gk - 1, by omega⟩
      have hnx : ∀ ty, (Instr.next (.pointer (some ⟨I, 0, none⟩)) true ty).run Tryz.prog wr = _ := fun ty => Lib.run_next_any_at wr I s pos ty hit hlt
      rw [decode_drop, HS.out.2.2] at hnx
      obtain ⟨c, r, hd⟩ : ∃ c r, m.drop pos = c :: r := by
        cases h : m.drop pos with
        | nil =>
          have : (m.drop pos).length = 0 := by rw [h]; rfl
          simp at this
          omega
        | cons c r => exact ⟨c, r, rfl⟩
      rw [hd] at hnx
      have hlen : (c :: r).length = s.size - pos := by rw [← hd, ← hmlen]; simp
      have hwd := dec_width (c :: r).length (at0 (c :: r) 0) (at0 (c :: r) 1) (at0 (c :: r) 2) (at0 (c :: r) 3) (by simp)
      have hit2 := Lib.iterAt_heap wr I s pos (pos + (decL (c :: r)).2) hit
      have hbw2 := Lib.below_iterAt hbw (k := I) HI3.out.2.2.2.2 s (pos + (decL (c :: r)).2)
      have hbu2 := hbu.iterAt hit (pos + (decL (c :: r)).2)
      by_cases hc : c = 38
      · subst hc
        rw [dec_ascii 38 r (by decide)] at hnx hit2 hbw2 hbu2
        simp only at hit2 hbw2 hbu2
        have hdp := hui.behind hd
        have hW2 : B ≤ (wr.iterAt I s (pos + 1)).heap.size := by rw [Lib.iterAt_size]; exact hBw
        generalize wr.iterAt I s (pos + 1) = wi at *
        have hmi := H0.out.1.md (Md.ofBelow (F := fun _ => False) (by rw [← HB.out]; exact hbw2)) (fun h => h)
        have hei := H0.out.2.md (Md.ofBelow (F := fun _ => False) (by rw [← HB.out]; exact hbw2)) (fun h => h)
        have hrl : r.length < 4294967280 := by simp at hlen; omega
        have K := reference_any r wi hrl hmi hei
        have hx1 : s.extract pos s.size = ⟨(38 :: r).toArray⟩ := by
          rw [HS.out.1, mk_ext, mk_size, List.take_length, hd]
        have hx2 : (s.extract d pos).data.toList = (m.drop d).take (pos - d) := by
          rw [HS.out.1, mk_ext, List.drop_take]
        have hx2l : (s.extract d pos).size = pos - d := by
          have : (s.extract d pos).size = (s.extract d pos).data.toList.length := by rw [Lib.size_eq]
          rw [this, hx2]
          simp
          omega
        have hpi : (pos : Int) ≤ (s.size : Int) := by omega
        have hdi : (d : Int) ≤ (pos : Int) := by omega
        have hbd := hui.bd
        have HU : Hid (UI m pos d bl ∧ m.drop pos = 38 :: r ∧ (s.extract d pos).data.toList = (m.drop d).take (pos - d)) := ⟨hui, hd, hx2⟩
        have HST : Hid (wi.heap[I]? = some (.stringIter s (pos + 1)) ∧ Lib.IsBuilderF 66 5 B B (Lib.byteCells bl) wi ∧ Below B w wi) := ⟨hit2, hbu2, hbw2⟩
        obtain ⟨px, hpx⟩ : ∃ px, px = s.extract d pos := ⟨_, rfl⟩
        rw [← hpx] at HU hx2l
        clear hd hui hx2 hit2 hbu2 hbw2 hit hbu hbw hwd hmi hei
        have hpx' : s.extract d pos = px := hpx.symm
        clear hpx
        go_wp2_with fail
        refine K.mono ?_
        rintro e w4 ⟨⟨n, k, hr, rfl⟩ | ⟨hr, rfl⟩, hb4⟩
        · have h4 := HU.out.1.amp HU.out.2.1 hr
          have hnc := refN_ch hr
          have hk1 := h4.2
          have hk0 : ((k : Int) == 0) = false := by rw [beq_eq_false_iff_ne]; omega
          have HU4 : Hid (UI m (pos + 1) (pos + k) (bl ++ (px.data.toList ++ Lib.encodeRune (n : Int)))) := by
            rw [HU.out.2.2]
            exact h4.1
          have hks : pos + k ≤ s.size := by have := h4.1.dl; omega
          have hadd : IntKind.i64.wrap ((pos : Int) + (k : Int)) = ((pos + k : Nat) : Int) := by
            rw [show ((pos : Int) + (k : Int)) = ((pos + k : Nat) : Int) by omega]
            exact wrap_small _ (by omega) (by omega)
          have HST4 : Hid (w4.heap[I]? = some (.stringIter s (pos + 1)) ∧ Lib.IsBuilderF 66 5 B B (Lib.byteCells bl) w4 ∧ Below B w w4 ∧ B ≤ w4.heap.size) :=
            ⟨(hb4.block I (blk_lt HST.out.1)).trans HST.out.1, isB_below HST.out.2.1 hb4, HST.out.2.2.trans (hb4.mono hW2), Nat.le_trans hW2 hb4.size⟩
          have K5 := ws_any B w4 bl px HST4.out.2.1 (by omega) HST4.out.2.2.2
          clear hb4 hr h4 K
          go_wp2_with fail
          refine K5.mono ?_
          rintro e w5 ⟨rfl, hbu5, hbb5, hok5⟩
          have HST5 : Hid (w5.heap[I]? = some (.stringIter s (pos + 1)) ∧ Lib.IsBuilderF 66 5 B B (Lib.byteCells (bl ++ px.data.toList)) w5 ∧ Below B w w5 ∧ B ≤ w5.heap.size) :=
            ⟨hok5.iter HST4.out.1 (HI3.out.2.2.2.1), hbu5, HST4.out.2.2.1.trans hbb5, Nat.le_trans HST4.out.2.2.2 hbb5.size⟩
          have hpl : (bl ++ px.data.toList).length ≤ 4294967280 := by
            rw [List.length_append]
            have : px.data.toList.length = px.size := by simp
            omega
          have K6 := wr_any B w5 (bl ++ px.data.toList) n hnc HST5.out.2.1 (by omega) HST5.out.2.2.2
          clear hbu5 hbb5 hok5 K5 HST4
          go_wp2_with fail
          refine K6.mono ?_
          rintro e w6 ⟨rfl, hbu6, hbb6, hok6⟩
          have HST6 : Hid (w6.heap[I]? = some (.stringIter s (pos + 1)) ∧ Lib.IsBuilderF 66 5 B B (Lib.byteCells (bl ++ (px.data.toList ++ Lib.encodeRune (n : Int)))) w6 ∧ Below B w w6) :=
            ⟨hok6.iter HST5.out.1 (HI3.out.2.2.2.1), by rw [← List.append_assoc]; exact hbu6, HST5.out.2.2.1.trans hbb6⟩
          clear hbu6 hbb6 hok6 K6 HST5
          go_wp2
          go_roundg g'
          case measure => omega
          case rel => exact ⟨pos + 1, pos + k, _, by omega, hks, by omega, by go_num, HST6.out.1, HST6.out.2.1, HST6.out.2.2, HU4.out⟩
        · have HF : Hid (O = none ∧ Below B w w4) := ⟨by rw [HO.out]; exact HU.out.1.fail HU.out.2.1 hr, HST.out.2.2.trans (hb4.mono hW2)⟩
          clear hb4 hr K
          go_wp2_with fail
          go_step3
          refine ⟨rfl, ?_⟩
          go_wp2
          rw [Exit.noGoto_ret]
          go_wp2
          go_ret2
          exact ⟨.inr ⟨HF.out.1, rfl⟩, by rw [← HB.out]; exact HF.out.2⟩
      · have hR : (((decL (c :: r)).1 : Int) != 38) = true := by
          rw [bne_iff_ne]
          by_cases ha : c.toNat < 128
          · rw [dec_ascii c r ha]
            intro h
            exact hc (UInt8.toNat_inj.1 (by simp at h ⊢; omega))
          · have := dec_great c r (by omega)
            omega
        have HU : Hid (UI m (pos + (decL (c :: r)).2) d bl) := hui.step hd hc
        have hK : 1 ≤ (decL (c :: r)).2 ∧ (decL (c :: r)).2 ≤ s.size - pos := ⟨hwd.1, by rw [← hlen]; exact hwd.2.1⟩
        clear hd hui hwd hc hit hbu hbw
        generalize (decL (c :: r)).1 = R at *
        generalize (decL (c :: r)).2 = K at *
        go_wp2
        go_roundg g'
        case measure => omega
        case rel => exact ⟨pos + K, d, bl, by omega, hds, by omega, rfl, hit2, hbu2, hbw2, HU.out⟩
    · have hnx : ∀ ty, (Instr.next (.pointer (some ⟨I, 0, none⟩)) true ty).run Tryz.prog wr = _ := fun ty => Lib.run_next_end_at wr I s pos ty hit hlt
      have HZ : Hid (O = some (bl ++ m.drop d)) := by
        show _ = _
        rw [HO.out]
        have : pos = m.length := by omega
        rw [this] at hui
        exact hui.stop
      have hx3 : (s.extract d s.size).data.toList = m.drop d := by
        rw [HS.out.1, mk_ext, mk_size, List.take_length]
      have hx3l : (s.extract d s.size).size ≤ s.size := by
        have : (s.extract d s.size).size = (s.extract d s.size).data.toList.length := by rw [Lib.size_eq]
        rw [this, hx3]
        simp
        omega
      have hbd := hui.bd
      have hdi : (d : Int) ≤ (s.size : Int) := by omega
      obtain ⟨px, hpx⟩ : ∃ px, s.extract d s.size = px := ⟨_, rfl⟩
      rw [hpx] at hx3 hx3l
      have K5 := ws_any B wr bl px hbu (by omega) hBw
      rw [hx3] at K5
      have HST : Hid (Below B w wr) := hbw
      clear hui hx3 hbw hbu hit
      go_wp2_with fail
      refine K5.mono ?_
      rintro e w5 ⟨rfl, hbu5, hbb5, hok5⟩
      have K6 := Builder_String_any_f B B (bl ++ m.drop d) w5 hbu5 (Nat.le_trans hBw hbb5.size)
      have HST5 : Hid (Below B w w5) := HST.out.trans hbb5
      clear hbu5 hbb5 hok5 K5
      go_wp2_with fail
      refine K6.mono ?_
      rintro e w6 ⟨rfl, -, hb6⟩
      have HST6 : Hid (Below B w w6) := HST5.out.trans hb6
      clear hb6 K6
      go_wp2
      rw [Jmp_ret]
      go_wp2
      go_ret2
      exact ⟨.inl ⟨_, HZ.out, rfl⟩, by rw [← HB.out]; exact HST6.out⟩
end Go.Proofs.YtohkocknpmnakaaGreatDoor
