/-
  Escape, the code's and the document's.
-/
import Derived.Test.YtohkocknpmnakaaGreatDoorEsM
namespace Go.Proofs.YtohkocknpmnakaaGreatDoor
open Go.RowKit

set_option maxRecDepth 20000 in
set_option maxHeartbeats 3200000 in
theorem escape_any (m : List UInt8) (w : World) (hl : m.length < 4294967280) :
    Calls Tryz.prog 24 #[.string ⟨m.toArray⟩] w fun e w' => e = .returned (.string ⟨(escX m).toArray⟩) ∧ Below w.heap.size w w' := by
  have hb0 : Below w.heap.size w (w.alloc (.cells #[.pointer none, .slice none 0 0] 66)) := (Below.refl _ _).alloc (Nat.le_refl _) _
  have hi0 := isB_new w
  obtain ⟨s, hs⟩ : ∃ s : ByteArray, s = ⟨m.toArray⟩ := ⟨_, rfl⟩
  have HS : Hid (s = ⟨m.toArray⟩ ∧ s.size = m.length ∧ s.data.toList = m) := ⟨hs, by rw [hs, mk_size], by rw [hs]⟩
  have hsl : s.size < 4294967280 := by rw [HS.out.2.1]; omega
  obtain ⟨O, hO⟩ : ∃ O, O = escX m := ⟨_, rfl⟩
  rw [← hO, ← hs]
  have HO : Hid (O = escX m) := hO
  obtain ⟨w2, hw2⟩ : ∃ w2, w2 = w.alloc (.cells #[.pointer none, .slice none 0 0] 66) := ⟨_, rfl⟩
  have HI2 : Hid (Lib.IsBuilderF 66 5 w.heap.size w.heap.size [] w2 ∧ Below w.heap.size w w2) := by rw [hw2]; exact ⟨hi0, hb0⟩
  clear hs hO hi0 hb0 hl
  go_enter Tryz.func24, Tryz.ntmps24
  go_wp2_with fail
  rw [← hw2]
  obtain ⟨I, hI⟩ : ∃ I, I = w2.heap.size := ⟨_, rfl⟩
  have hI' : w.heap.size + 1 = I := by rw [hI, hw2]; show _ = (w.heap.push _).size; simp
  have HI3 : Hid (Lib.IsBuilderF 66 5 w.heap.size w.heap.size (Lib.byteCells []) (w2.iter s 0) ∧ Below w.heap.size w (w2.iter s 0) ∧ (w2.iter s 0).heap[I]? = some (.stringIter s 0) ∧ I ≠ w.heap.size ∧ w.heap.size ≤ I) := by
    have hbi : Below w2.heap.size w2 (w2.iter s 0) := (Below.refl _ _).alloc (Nat.le_refl _) _
    exact ⟨isB_below HI2.out.1 hbi, HI2.out.2.trans (hbi.mono HI2.out.2.size), by rw [hI]; exact World.iter_heap w2 s 0, by omega, by omega⟩
  rw [hI']
  clear hI hI' HI2 hw2
  generalize w2.iter s 0 = w3 at *
  obtain ⟨B, hB⟩ : ∃ B, B = w.heap.size := ⟨_, rfl⟩
  rw [← hB] at HI3
  have HB : Hid (B = w.heap.size) := hB
  rw [← hB]
  clear hB
  go_loopg [4] s.size (fun gf dn wx => ∃ (pos d : Nat) (bl : List UInt8), pos ≤ s.size ∧ d ≤ s.size ∧ s.size ≤ pos + gf ∧ dn = .int .i64 d ∧ wx.heap[I]? = some (.stringIter s pos) ∧ Lib.IsBuilderF 66 5 B B (Lib.byteCells bl) wx ∧ Below B w wx ∧ EI m pos d bl)
  case atStart => exact ⟨0, 0, [], Nat.zero_le _, Nat.zero_le _, by omega, rfl, HI3.out.2.2.1, HI3.out.1, HI3.out.2.1, EI.start m⟩
  case round =>
    obtain ⟨pos, d, bl, hps, hds, hfu, rfl, hit, hbu, hbw, hui⟩ := hrel
    have hBw : B ≤ wr.heap.size := Nat.le_trans (by rw [HB.out]; exact Nat.le_refl _) hbw.size
    have hmlen : m.length = s.size := HS.out.2.1.symm
    by_cases hlt : pos < s.size
    · obtain ⟨g', rfl⟩ : ∃ g', gk = g' + 1 := ⟨gk - 1, by omega⟩
      have hnx : ∀ ty, (Instr.next (.pointer (some ⟨I, 0, none⟩)) true ty).run Tryz.prog wr = _ := fun ty => Lib.run_next_any_at wr I s pos ty hit hlt
      rw [decode_drop, HS.out.2.2] at hnx
      obtain ⟨c, r, hd⟩ : ∃ c r, m.drop pos = c :: r := by
        cases h : m.drop pos with
        | nil =>
          have : (m.drop pos).length = 0 := by rw [h]; rfl
          simp at this
          omega
        | cons c r => exact ⟨c, r, rfl⟩
      rw [hd] at hnx
      have hlen : (c :: r).length = s.size - pos := by rw [← hd, ← hmlen]; simp
      have hwd := dec_width (c :: r).length (at0 (c :: r) 0) (at0 (c :: r) 1) (at0 (c :: r) 2) (at0 (c :: r) 3) (by simp)
      have hit2 := Lib.iterAt_heap wr I s pos (pos + (decL (c :: r)).2) hit
      have hbw2 := Lib.below_iterAt hbw (k := I) HI3.out.2.2.2.2 s (pos + (decL (c :: r)).2)
      have hbu2 := hbu.iterAt hit (pos + (decL (c :: r)).2)
      have KE := (show Hid (∀ W, Calls Tryz.prog 49 #[.int .i32 ((decL (c :: r)).1 : Int)] W fun e w' => e = .returned (.string ⟨(eoL ((decL (c :: r)).1 : Int)).toArray⟩) ∧ W = w') from fun W => escapeOf_any _ W)
      by_cases hc : eoL ((decL (c :: r)).1 : Int) = []
      · have HU : Hid (EI m (pos + (decL (c :: r)).2) d bl) := hui.step hd hc
        have hK : 1 ≤ (decL (c :: r)).2 ∧ (decL (c :: r)).2 ≤ s.size - pos := ⟨hwd.1, by rw [← hlen]; exact hwd.2.1⟩
        rw [hc] at KE
        clear hd hui hwd hc hit hbu hbw
        generalize (decL (c :: r)).1 = R at *
        generalize (decL (c :: r)).2 = K at *
        go_wp2_with (go_at_call 49; refine (KE.out _).mono ?_; rintro e w' ⟨rfl, rfl⟩)
        go_roundg g'
        case measure => omega
        case rel => exact ⟨pos + K, d, bl, by omega, hds, by omega, rfl, hit2, hbu2, hbw2, HU.out⟩
      · have ha : c.toNat < 128 := by
          rw [← Nat.not_le]
          intro h
          exact hc (eo_great _ (by have := dec_great c r h; omega))
        rw [dec_ascii c r ha] at hnx hit2 hbw2 hbu2 KE hc
        simp only at hit2 hbw2 hbu2 hc
        have hdp := hui.dp
        have hW2 : B ≤ (wr.iterAt I s (pos + 1)).heap.size := by rw [Lib.iterAt_size]; exact hBw
        generalize wr.iterAt I s (pos + 1) = wi at *
        have h4 := hui.hit hd hc
        have hx2 : (s.extract d pos).data.toList = (m.drop d).take (pos - d) := by
          rw [HS.out.1, mk_ext, List.drop_take]
        have hx2l : (s.extract d pos).size = pos - d := by
          have : (s.extract d pos).size = (s.extract d pos).data.toList.length := by rw [Lib.size_eq]
          rw [this, hx2]
          simp
          omega
        have hpi : (pos : Int) ≤ (s.size : Int) := by omega
        have hdi : (d : Int) ≤ (pos : Int) := by omega
        have hbd := hui.bd
        have h6 := eo_len (c.toNat : Int)
        obtain ⟨px, hpx⟩ : ∃ px, px = s.extract d pos := ⟨_, rfl⟩
        rw [← hpx] at hx2 hx2l
        rw [← hx2] at h4
        have hpx' : s.extract d pos = px := hpx.symm
        obtain ⟨ev, hev⟩ : ∃ ev : ByteArray, ev = ⟨(eoL (c.toNat : Int)).toArray⟩ := ⟨_, rfl⟩
        have hevd : ev.data.toList = eoL (c.toNat : Int) := by rw [hev]
        have hevs : ev.size ≤ 6 := by rw [hev, mk_size]; exact h6
        have heve : ev.toList.isEmpty = false := by
          rw [Lib.toList_data, hevd]
          cases h : eoL (c.toNat : Int) with
          | nil => exact absurd h hc
          | cons x y => rfl
        rw [← hev] at KE
        rw [← hevd] at h4
        have HU4 : Hid (EI m (pos + 1) (pos + 1) (bl ++ (px.data.toList ++ ev.data.toList))) := h4
        have HST4 : Hid (wi.heap[I]? = some (.stringIter s (pos + 1)) ∧ Lib.IsBuilderF 66 5 B B (Lib.byteCells bl) wi ∧ Below B w wi ∧ B ≤ wi.heap.size) := ⟨hit2, hbu2, hbw2, hW2⟩
        have K5 := ws_any B wi bl px hbu2 (by omega) hW2
        clear hd hui hx2 hit2 hbu2 hbw2 hit hbu hbw hwd hpx h4 hc hev hevd
        go_wp2_with (go_at_call 49; refine (KE.out _).mono ?_; rintro e w' ⟨rfl, rfl⟩)
        refine K5.mono ?_
        rintro e w5 ⟨rfl, hbu5, hbb5, hok5⟩
        have HST5 : Hid (w5.heap[I]? = some (.stringIter s (pos + 1)) ∧ Lib.IsBuilderF 66 5 B B (Lib.byteCells (bl ++ px.data.toList)) w5 ∧ Below B w w5 ∧ B ≤ w5.heap.size) :=
          ⟨hok5.iter HST4.out.1 (HI3.out.2.2.2.1), hbu5, HST4.out.2.2.1.trans hbb5, Nat.le_trans HST4.out.2.2.2 hbb5.size⟩
        have hpl : (bl ++ px.data.toList).length ≤ 30064771060 := by
          rw [List.length_append]
          have : px.data.toList.length = px.size := by simp
          omega
        have K6 := ws_any B w5 (bl ++ px.data.toList) ev HST5.out.2.1 (by omega) HST5.out.2.2.2
        clear hbu5 hbb5 hok5 K5 HST4
        go_wp2_with fail
        refine K6.mono ?_
        rintro e w6 ⟨rfl, hbu6, hbb6, hok6⟩
        have HST6 : Hid (w6.heap[I]? = some (.stringIter s (pos + 1)) ∧ Lib.IsBuilderF 66 5 B B (Lib.byteCells (bl ++ (px.data.toList ++ ev.data.toList))) w6 ∧ Below B w w6) :=
          ⟨hok6.iter HST5.out.1 (HI3.out.2.2.2.1), by rw [← List.append_assoc]; exact hbu6, HST5.out.2.2.1.trans hbb6⟩
        clear hbu6 hbb6 hok6 K6 HST5
        go_wp2
        go_roundg g'
        case measure => omega
        case rel => exact ⟨pos + 1, pos + 1, _, by omega, by omega, by omega, by go_num, HST6.out.1, HST6.out.2.1, HST6.out.2.2, HU4.out⟩
    · have hnx : ∀ ty, (Instr.next (.pointer (some ⟨I, 0, none⟩)) true ty).run Tryz.prog wr = _ := fun ty => Lib.run_next_end_at wr I s pos ty hit hlt
      have HZ : Hid (O = bl ++ m.drop d) := by
        show _ = _
        rw [HO.out]
        have : pos = m.length := by omega
        rw [this] at hui
        exact hui.stop
      have hx3 : (s.extract d s.size).data.toList = m.drop d := by
        rw [HS.out.1, mk_ext, mk_size, List.take_length]
      have hx3l : (s.extract d s.size).size ≤ s.size := by
        have : (s.extract d s.size).size = (s.extract d s.size).data.toList.length := by rw [Lib.size_eq]
        rw [this, hx3]
        simp
        omega
      have hbd := hui.bd
      have hdi : (d : Int) ≤ (s.size : Int) := by omega
      obtain ⟨px, hpx⟩ : ∃ px, s.extract d s.size = px := ⟨_, rfl⟩
      rw [hpx] at hx3 hx3l
      have K5 := ws_any B wr bl px hbu (by omega) hBw
      rw [hx3] at K5
      have HST : Hid (Below B w wr) := hbw
      clear hui hx3 hbw hbu hit
      go_wp2_with fail
      refine K5.mono ?_
      rintro e w5 ⟨rfl, hbu5, hbb5, hok5⟩
      have K6 := Builder_String_any_f B B (bl ++ m.drop d) w5 hbu5 (Nat.le_trans hBw hbb5.size)
      have HST5 : Hid (Below B w w5) := HST.out.trans hbb5
      clear hbu5 hbb5 hok5 K5
      go_wp2_with fail
      refine K6.mono ?_
      rintro e w6 ⟨rfl, -, hb6⟩
      have HST6 : Hid (Below B w w6) := HST5.out.trans hb6
      clear hb6 K6
      go_wp2
      go_ret
      exact ⟨ret_str (by rw [HZ.out]), by rw [← HB.out]; exact HST6.out⟩

theorem add_list (A x : List UInt8) (h : A.length + x.length ≤ 281474976710656) (wx : World) : (Op.stringOp .add ⟨A.toArray⟩ ⟨x.toArray⟩).run Tryz.prog wx = .ok (.string ⟨(A ++ x).toArray⟩) wx := by
  rw [run_string_add_sum wx _ _ (by simp [ByteArray.size]; omega)]
  exact congrArg (fun z => Result.ok (Value.string z) wx) (ByteArray.mk_append_mk _ x)
set_option maxRecDepth 20000 in
set_option maxHeartbeats 3200000 in
theorem escape_ref (m : List UInt8) (w : World) (hl : m.length ≤ 17592186044416) :
    Calls Tryz.prog 25 #[.string ⟨m.toArray⟩] w fun e w' => e = .returned (.string ⟨(escX m).toArray⟩) ∧ w = w' := by
  obtain ⟨s, hs⟩ : ∃ s : ByteArray, s = ⟨m.toArray⟩ := ⟨_, rfl⟩
  have HS : Hid (s = ⟨m.toArray⟩ ∧ s.size = m.length) := ⟨hs, by rw [hs, mk_size]⟩
  have hsl : s.size ≤ 17592186044416 := by rw [HS.out.2]; omega
  rw [← hs]
  clear hs hl
  go_enter Tryz.func25, Tryz.ntmps25
  go_wp2
  go_loop [3, 4] (fun v i => ∃ k : Nat, k ≤ s.size ∧ i = .int .i64 k ∧ v = .string ⟨(escX (m.take k)).toArray⟩) (fun _ i => s.size - (intOf i).toNat)
  case atStart => exact ⟨0, Nat.zero_le _, rfl, rfl⟩
  case round =>
    obtain ⟨k, hk, rfl, rfl⟩ := hrel
    have hle := escX_len (m.take k)
    have hlk : (m.take k).length ≤ k := List.length_take_le _ _
    by_cases hlt : k < s.size
    · have hkl : k < m.length := by rw [← HS.out.2]; exact hlt
      have hex : s.extract k (k + 1) = ⟨[m[k]].toArray⟩ := by
        rw [HS.out.1, mk_ext]
        congr 2
        rw [List.take_succ_eq_append_getElem hkl, List.drop_append_of_le_length (by simp; omega), List.drop_eq_nil_of_le (by simp; omega), List.nil_append]
      have hsk : (s[k].toNat : Int) = (m[k].toNat : Int) := by
        have e : ∀ (t : ByteArray) (h : t = ⟨m.toArray⟩) (hk : k < t.size), t[k] = m[k] := by
          rintro t rfl hk
          rfl
        rw [e s HS.out.1 hlt]
      obtain ⟨c, hc⟩ : ∃ c, m[k] = c := ⟨_, rfl⟩
      have HE : Hid (escX (m.take (k + 1)) = escX (m.take k) ++ escB c) := by
        show _ = _
        rw [List.take_succ_eq_append_getElem hkl, escX_app, hc]
        simp [escX]
      rw [hc] at hex hsk
      generalize escX (m.take k) = A at *
      have hA := add_list A
      have a1 := hA [38, 97, 109, 112, 59] (by simp; omega)
      have a2 := hA [38, 108, 116, 59] (by simp; omega)
      have a3 := hA [38, 103, 116, 59] (by simp; omega)
      have a4 := hA [38, 113, 117, 111, 116, 59] (by simp; omega)
      have a5 := hA [38, 35, 49, 51, 59] (by simp; omega)
      have a6 := hA [c] (by simp; omega)
      have HB : Hid (escB c = if eoL (c.toNat : Int) = [] then [c] else eoL (c.toNat : Int)) := rfl
      obtain ⟨n, hn⟩ : ∃ n : Int, n = (c.toNat : Int) := ⟨_, rfl⟩
      rw [← hn] at hsk HB
      clear hA hc hn hle hlk
      go_wp2
      all_goals
        refine ⟨⟨k + 1, by omega, by go_num, ?_⟩, by simp [intOf]; omega⟩
        rw [HE.out, HB.out]
        first
          | (simp [eoL]; done)
          | (simp_all [eoL]; done)
    · have HT : Hid (m.take k = m) := List.take_of_length_le (by rw [← HS.out.2]; omega)
      go_wp2
      go_ret
      exact ⟨ret_str (by rw [HT.out]), rfl⟩
end Go.Proofs.YtohkocknpmnakaaGreatDoor
