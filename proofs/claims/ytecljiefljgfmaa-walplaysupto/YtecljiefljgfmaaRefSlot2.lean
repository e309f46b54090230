/-
  What a slot holds, as the document reads it: where its size fits.
-/
import Derived.Test.YtecljiefljgfmaaRefSlot
namespace Go.Proofs.Ytecljiefljgfmaa
open Go.RowKit

set_option maxHeartbeats 4000000 in
set_option maxRecDepth 20000 in
theorem rslot_go {w wr : World} {d r : Nat} {K : Nat → Prop} {M : D} {N : R} (h : Pair w wr d r K M N) (hs : Sim M N) (hst : M.st ≠ 2) (hS : ∀ x ∈ M.S, x.size = 256) (hW : N.W.length ≤ 10000) (p n j : Nat) (h1 : 1 ≤ n) (hn : p + n ≤ M.L.length) (_hj : j < 2) (hm : (slotHead M.S p).take 4 = markL) (hp : slotEp M.S p % 2 = j) (hf : fitsB n (slotSz M.S p) = true) (ok : Bool) (hok : ok = decide (slotHead M.S p = headL (slotEp M.S p) (slotSt M.S p))) :
    Calls Try.prog 66 #[.pointer (some ⟨r, 0, none⟩), .int .i64 (p : Int), .int .i64 (n : Int), .int .u64 (j : Int)] wr fun e w' => ∃ a c, e = .returned (.tuple #[if ok then .agg #[.bool true, .int .u64 (slotEp M.S p : Int), .slice a (slotSz M.S p) c] else .agg #[.bool false, .int .u64 0, .slice none 0 0], .int .i64 0]) ∧ Bytes w' a (slotSt M.S p) ∧ Below wr.heap.size wr w' := by
  have hlen := h.ok.len
  have htop := h.ok.top
  obtain ⟨W, hW'⟩ : ∃ W, W = wr.alloc (.cells #[.bool false, .int .u64 0, .slice none 0 0] 73) := ⟨_, rfl⟩
  obtain ⟨s, hsz⟩ : ∃ s, s = wr.heap.size := ⟨_, rfl⟩
  have hblk : W.heap[s]? = some (.cells #[.bool false, .int .u64 0, .slice none 0 0] 73 (0, 0)) := by rw [hW', hsz]; exact heap_alloc_new wr _
  have hWB : Below wr.heap.size wr W := by rw [hW']; exact (Below.refl _ _).alloc (Nat.le_refl _) _
  have hPW := h.below hWB
  have hrd := p_rread (p : Int) hPW (by omega)
  rw [sim_rd_ok hs hst (i := p) (by omega)] at hrd
  obtain ⟨x1, x2, x3, x4, x5, x6⟩ := slot_x (S := M.S) (p := p) (by omega) (hS _ (List.getElem_mem _))
  have hx256 : (M.S[p]'(by omega)).size = 256 := hS _ (List.getElem_mem _)
  obtain ⟨x, hx⟩ : ∃ x, x = M.S[p]'(by omega) := ⟨_, rfl⟩
  rw [← hx] at hrd x1 x2 x3 x4 x5 x6 hx256
  obtain ⟨W1, k1, hcv1, hf1, hb1⟩ := conv_fresh (x.extract 8 16) W
  obtain ⟨W2, k2, hcv2, hf2, hb2⟩ := conv_fresh (x.extract 16 24) W1
  have s1 : (x.extract 8 16).size = 8 := by have := x5; rw [Array.length_toList] at this; exact this
  have s2 : (x.extract 16 24).size = 8 := by have := x6; rw [Array.length_toList] at this; exact this
  have hg1 := refGet64_any (some ⟨W.heap.size, 0, none⟩) (x.extract 8 16).data.toList k1 W1 (by rw [x5]; omega) hf1.bytes
  have hg2 := refGet64_any (some ⟨W1.heap.size, 0, none⟩) (x.extract 16 24).data.toList k2 W2 (by rw [x6]; omega) hf2.bytes
  rw [x5, x1] at hg1
  rw [x6, x2] at hg2
  rw [s1] at hcv1
  rw [s2] at hcv2
  obtain ⟨ep, hep⟩ : ∃ ep, ep = slotEp M.S p := ⟨_, rfl⟩
  obtain ⟨sz, hszE⟩ : ∃ sz, sz = slotSz M.S p := ⟨_, rfl⟩
  rw [← hep] at hg1
  rw [← hszE] at hg2
  have hepb : ep < 18446744073709551616 := by
    rw [hep, ← x1, g64]
    split
    · have := vl_bd (x.extract 8 16).data.toList 8; rw [show (256 : Nat) ^ 8 = 18446744073709551616 from by decide] at this; exact this
    · omega
  have hszb : sz < 18446744073709551616 := by
    rw [hszE, ← x2, g64]
    split
    · have := vl_bd (x.extract 16 24).data.toList 8; rw [show (256 : Nat) ^ 8 = 18446744073709551616 from by decide] at this; exact this
    · omega
  have hB2 : Below W.heap.size W W2 := hb1.trans (hb2.mono hb1.size)
  have hblk2 : W2.heap[s]? = some (.cells #[.bool false, .int .u64 0, .slice none 0 0] 73 (0, 0)) := (hB2.block s (Array.getElem?_eq_some_iff.1 hblk).1).trans hblk
  have HEND : Hid (∀ q, Below W2.heap.size W2 q → q.heap[s]? = some (.cells #[.bool false, .int .u64 0, .slice none 0 0] 73 (0, 0)) ∧ ∀ y0 y1 y2, Below wr.heap.size wr (((q.setCell ⟨s, 0, none⟩ y0).setCell ⟨s, 1, none⟩ y1).setCell ⟨s, 2, none⟩ y2)) := (by
    intro q hq
    have hBq : Below wr.heap.size wr q := (hWB.trans (hB2.mono hWB.size)).trans (hq.mono (Nat.le_trans hWB.size hB2.size))
    have hsge : wr.heap.size ≤ s := by omega
    exact ⟨(hq.block s (Array.getElem?_eq_some_iff.1 hblk2).1).trans hblk2, fun y0 y1 y2 => ((hBq.setCell (p := ⟨s, 0, none⟩) hsge _).setCell (p := ⟨s, 1, none⟩) hsge _).setCell (p := ⟨s, 2, none⟩) hsge _⟩)
  have c0 := cell_blk hblk2 0
  have c1 := cell_blk hblk2 1
  have c2 := cell_blk hblk2 2
  have f0 := frozen_blk hblk2 0
  have f1 := frozen_blk hblk2 1
  have f2 := frozen_blk hblk2 2
  simp only [List.getElem?_toArray] at c0 c1 c2
  have hbq : x.extract 0 4 = (⟨#[83, 78, 65, 80]⟩ : ByteArray) := text_eq (by rw [x4, hm]; rfl)
  rw [← hep] at hp
  have hpar : (((ep : Int) % 2) != (j : Int)) = false := by rw [bne_eq_false_iff_eq]; omega
  have hfn : sect sz ≤ n - 1 := by
    rw [← hszE] at hf
    simp only [fitsB, decide_eq_true_eq, Int.toNat_natCast] at hf
    omega
  have hszc : sz ≤ 256 * (n - 1) := Nat.le_trans (sect_le _) (Nat.mul_le_mul_left _ hfn)
  have hsz6 : sz ≤ 1048576 := by omega
  have hbi : ¬ (1099511627776 : Int) < (sz : Int) := by omega
  have hfi := refFits_any n sz W2 (by omega) (by omega)
  rw [← hszE] at hf
  rw [hf] at hfi
  obtain ⟨c, hc⟩ : ∃ c, c = sect sz := ⟨_, rfl⟩
  have hcl : 256 * c < sz + 256 := by rw [hc]; unfold sect; omega
  have hcl2 : sz ≤ 256 * c := by rw [hc]; exact sect_le _
  have hPW2 := hPW.below hB2
  have HRD : Hid (∀ q (k : Nat), Below W2.heap.size W2 q → (hk : k < c) → ∃ t : ByteArray, t.size = 256 ∧ secs M.S (p + 1) (k + 1) = secs M.S (p + 1) k ++ t.data.toList ∧ Calls Try.prog 59 #[.pointer (some ⟨r, 0, none⟩), .int .i64 ((p + 1 + k : Nat) : Int)] q fun e w' => e = .returned (.tuple #[.string t, .int .i64 0]) ∧ q = w') := (by
    intro q k hq hk
    have hlt : p + 1 + k < M.S.length := by omega
    have := p_rread ((p + 1 + k : Nat) : Int) (hPW2.below hq) (by omega)
    rw [sim_rd_ok hs hst hlt] at this
    exact ⟨M.S[p + 1 + k], hS _ (List.getElem_mem _), secs_succ hlt, this⟩)
  have HSL : Hid (∀ k, k ≤ c → (secs M.S (p + 1) k).length = 256 * k) := fun k hk => secs_length hS (by omega)
  have HST : Hid ((secs M.S (p + 1) c).take sz = slotSt M.S p ∧ (slotSt M.S p).length = sz) := (by
    have e1 : (secs M.S (p + 1) c).take sz = slotSt M.S p := by rw [slotSt, ← hszE, hc]
    refine ⟨e1, ?_⟩
    rw [← e1, List.length_take, secs_length hS (by omega)]
    omega)
  have HOK : Hid (ok = decide (slotHead M.S p = headL ep (slotSt M.S p)) ∧ (x.extract 0 24).data.toList = slotHead M.S p) := ⟨by rw [hep]; exact hok, x3⟩
  obtain ⟨i0, hi, hz0, hz1, hz2⟩ := info_parts info5
  have hB02 : Below wr.heap.size wr W2 := hWB.trans (hB2.mono hWB.size)
  have hpb : p ≤ 4096 := by omega
  rw [← hep, ← hszE]
  clear hPW2 h hs hst hS hPW hblk hWB hf1 hf2 hb1 hb2 hB2 hblk2 x1 x2 x3 x4 x5 x6 s1 s2 hep hszE hx hlen hn hok hm hf hc
  go_enter Try.func66, Try.ntmps66
  go_wp2_with fail
  rw [← hW', ← hsz]
  clear hW' hsz
  refine Calls.mono hrd ?_
  rintro e w1 ⟨rfl, rfl⟩
  go_wp2_with (first
    | (go_at_call 88; (with_reducible refine Calls.mono hg1 ?_); rintro e q1 ⟨rfl, rfl⟩)
    | (go_at_call 88; (with_reducible refine Calls.mono hg2 ?_); rintro e q2 ⟨rfl, rfl⟩)
    | (go_at_call 36; (with_reducible refine Calls.mono hfi ?_); rintro e q3 ⟨rfl, rfl⟩))
  clear hcv1 hcv2 hg1 hg2 hfi hrd
  obtain ⟨WS, hWS⟩ : ∃ WS, WS = wr := ⟨_, rfl⟩
  have HWS : Hid (WS = wr) := hWS
  clear hWS
  clear hpar hbq hbi hB02
  go_loopw [16, 17] (fun v iv q => ∃ k : Nat, k ≤ c ∧ iv = .int .i64 k ∧ Own q W2.heap.size v (secs M.S (p + 1) k) ∧ Below W2.heap.size W2 q) (fun _ iv _ => c - (intOf iv).toNat)
  case atStart => exact ⟨0, Nat.zero_le _, rfl, by rw [secs]; exact World.ownsRow_nil _ _ _ _, Below.refl _ _⟩
  case round =>
    obtain ⟨k, hk, rfl, hown, hbw⟩ := hrel
    by_cases hlt : k < c
    · obtain ⟨t, ht256, hsec, hrd⟩ := HRD.out wr k hbw hlt
      obtain ⟨u, hu⟩ : ∃ u, u = 256 * k := ⟨_, rfl⟩
      have hu2 : (256 : Int) * (k : Int) = (u : Int) := by omega
      have hu3 : (u : Int) < (sz : Int) := by omega
      obtain ⟨y, hy⟩ : ∃ y, y = p + 1 + k := ⟨_, rfl⟩
      have hy2 : (p : Int) + 1 + (k : Int) = (y : Int) := by omega
      have hyb : y ≤ 10000 := by omega
      rw [← hy] at hrd
      have hsl := HSL.out k hk
      have hk4 : k ≤ 4097 := by omega
      have HSE : Hid (secs M.S (p + 1) (k + 1) = secs M.S (p + 1) k ++ t.data.toList) := hsec
      have HO : Hid (Own wr W2.heap.size u16 (secs M.S (p + 1) k)) := hown
      have hsz2 := hbw.size
      clear hsec hu hy hown
      go_wp2_with (first
        | (go_at_call 59; (with_reducible refine Calls.mono hrd ?_); rintro e q5 ⟨rfl, rfl⟩)
        | (at_builtin; refine Lib.wpList_append_own_string _ rfl (.tmp 85) (.tmp 86) 50 9 rfl W2.heap.size 5 i0 Try.underlying50 Try.underlying9 hi hz0 hz1 hz2 _ _ _ rfl HO.out t rfl ?c1 ?c2 ?c3 ?_))
      case c1 => rw [hsl, ht256]; unfold maxLen; omega
      case c2 => rw [hsl, ht256]; omega
      case c3 => exact hsz2
      intro v2 w2 hown2 hgrow2 _
      have R : Own w2 W2.heap.size v2 (secs M.S (p + 1) (k + 1)) := by
        have e2 : (secs M.S (p + 1) k ++ t.data.toList).length = (secs M.S (p + 1) k).length + t.size := by rw [List.length_append]; simp
        unfold Own
        rw [HSE.out, e2, hsl, ht256, bcs_append]
        exact hown2
      have hbl2 : Below W2.heap.size W2 w2 := hbw.grown hgrow2 hsz2 (fun z hz => (owns_lt HO.out z hz).1)
      clear hown2 hgrow2
      go_wp2
      go_roundw
      case rel => exact ⟨k + 1, by omega, by go_num, R, hbl2⟩
      case measure => simp [intOf]; omega
    · obtain rfl : k = c := by omega
      obtain ⟨ao, co, rfl, hby, hnoo, hlc, _⟩ := hown.open
      rw [HSL.out k (Nat.le_refl _)] at hlc ⊢
      obtain ⟨u, hu⟩ : ∃ u, u = 256 * k := ⟨_, rfl⟩
      have hu2 : (256 : Int) * (k : Int) = (u : Int) := by omega
      have hu3 : ¬ (u : Int) < (sz : Int) := by omega
      rw [← hu] at hlc ⊢
      have hsl2 : ∀ wx, (Instr.slice 50 (.slice ao u co) none (some (.int .i64 (sz : Int))) none).run Try.prog wx = .ok (.slice ao sz co) wx := fun wx => slice_hi ao u co sz (by omega) wx
      have hbyS : Bytes wr ao (slotSt M.S p) := by rw [← HST.out.1]; exact hby.take sz
      have hhd := refHead_any ep ao (slotSt M.S p) co wr.drew hepb hbyS (by rw [HST.out.2]; omega) hnoo
      rw [HST.out.2] at hhd
      have HHD : Hid (Calls Try.prog 64 #[.int .u64 (ep : Int), .slice ao sz co] wr.drew fun e w5 => ∃ a5 c5, e = .returned (.slice a5 24 c5) ∧ (convert 50 9 (.slice a5 24 c5)).run Try.prog w5 = .ok (.string ⟨(headL ep (slotSt M.S p)).toArray⟩) w5 ∧ w5.heap[s]? = some (.cells #[.bool false, .int .u64 0, .slice none 0 0] 73 (0, 0)) ∧ (∀ y0 y1 y2, Below WS.heap.size WS (((w5.setCell ⟨s, 0, none⟩ y0).setCell ⟨s, 1, none⟩ y1).setCell ⟨s, 2, none⟩ y2) ∧ Bytes (((w5.setCell ⟨s, 0, none⟩ y0).setCell ⟨s, 1, none⟩ y1).setCell ⟨s, 2, none⟩ y2) ao (slotSt M.S p))) := (by
        refine Calls.mono hhd ?_
        rintro e w5 ⟨v5, rfl, ho5, hb5⟩
        obtain ⟨a5, c5, rfl, hby5, _⟩ := ho5.open
        have hcv := convert_bytes w5 a5 c5 _ hby5
        rw [headL_length] at hcv ⊢
        have hq5 := hbw.drew.trans (hb5.mono hbw.size)
        obtain ⟨e1, e2⟩ := HEND.out w5 hq5
        refine ⟨a5, c5, rfl, hcv, e1, fun y0 y1 y2 => ⟨by rw [HWS.out]; exact e2 y0 y1 y2, ?_⟩⟩
        have hT : Turn (fun k => k = s) w5 (((w5.setCell ⟨s, 0, none⟩ y0).setCell ⟨s, 1, none⟩ y1).setCell ⟨s, 2, none⟩ y2) := (((Turn.refl (fun k => k = s) w5).setCell (p := ⟨s, 0, none⟩) rfl y0).setCell (p := ⟨s, 1, none⟩) rfl y1).setCell (p := ⟨s, 2, none⟩) rfl y2
        by_cases hn0 : slotSt M.S p = []
        · exact .inl hn0
        refine ((show Bytes wr.drew ao (slotSt M.S p) from hbyS).below hb5 (Nat.le_refl _)).turn hT ?_
        rintro ad e rfl
        have h1 : W2.heap.size ≤ ad.block := by
          have := owns_lt hown ad.block (by rw [e]; rfl)
          exact this.1
        have h2 := (Array.getElem?_eq_some_iff.1 (HEND.out W2 (Below.refl _ _)).1).1
        omega)
      obtain ⟨z, hz⟩ : ∃ z : ByteArray, z = ⟨(headL ep (slotSt M.S p)).toArray⟩ := ⟨_, rfl⟩
      rw [← hz] at HHD
      have hzl : z.data.toList = headL ep (slotSt M.S p) := by rw [hz]
      have hokz : ok = decide (z = x.extract 0 24) := by
        rw [HOK.out.1]
        by_cases hq : slotHead M.S p = headL ep (slotSt M.S p)
        · rw [decide_eq_true hq, decide_eq_true (text_eq (by rw [hzl, HOK.out.2, hq]))]
        · rw [decide_eq_false hq, decide_eq_false]
          intro e
          apply hq
          rw [← HOK.out.2, ← e, hzl]
      clear hown hby hnoo hbyS hhd hu hz hzl HST HSL HRD HOK hlc
      cases ok with
      | true =>
        have hzx : z = x.extract 0 24 := of_decide_eq_true hokz.symm
        rw [hzx] at HHD
        clear hokz hzx
        go_wp2
        go_region_with (go_at_call 64; (with_reducible refine Calls.mono HHD.out ?_); rintro e w5 ⟨a5, c5, rfl, hcv5, hbx5, hen5⟩; have c50 := cell_blk hbx5 0; have c51 := cell_blk hbx5 1; have c52 := cell_blk hbx5 2; have f50 := frozen_blk hbx5 0; have f51 := frozen_blk hbx5 1; have f52 := frozen_blk hbx5 2; simp only [List.getElem?_toArray] at c50 c51 c52)
        all_goals go_wp2
        all_goals
          ((try simp only [Exit.inBlock, Exit.then])
           refine bodyPost_ret (v := .tuple #[.agg #[.bool true, .int .u64 (ep : Int), .slice ao sz co], .int .i64 0]) ?_ rfl (by first | exact ⟨ao, co, rfl, (hen5 _ _ _).2, by rw [← HWS.out]; exact (hen5 _ _ _).1⟩ | exact ⟨⟨ao, co, rfl, (hen5 _ _ _).2⟩, by rw [← HWS.out]; exact (hen5 _ _ _).1⟩ | exact ⟨ao, ⟨co, rfl⟩, (hen5 _ _ _).2, by rw [← HWS.out]; exact (hen5 _ _ _).1⟩)
           rw [results_cell_tmp rfl]
           simp [asAddr, Result.andThen, box3_load (box3_set hbx5 (.bool true) (.int .u64 (ep : Int)) (.slice ao sz co))])
      | false =>
        have hzx : ¬ z = x.extract 0 24 := of_decide_eq_false hokz.symm
        have hzn : ¬ z.toList = (x.extract 0 24).toList := by
          rw [ByteArray.toList_eq, ByteArray.toList_eq]
          exact fun e => hzx (text_eq e)
        have hzb : (z.toList == (x.extract 0 24).toList) = false := by rw [beq_eq_false_iff_ne]; exact hzn
        clear hokz hzx
        go_wp2
        go_region_with (go_at_call 64; (with_reducible refine Calls.mono HHD.out ?_); rintro e w5 ⟨a5, c5, rfl, hcv5, hbx5, hen5⟩; have c50 := cell_blk hbx5 0; have c51 := cell_blk hbx5 1; have c52 := cell_blk hbx5 2; have f50 := frozen_blk hbx5 0; have f51 := frozen_blk hbx5 1; have f52 := frozen_blk hbx5 2; simp only [List.getElem?_toArray] at c50 c51 c52)
        all_goals go_wp2
        all_goals
          ((try simp only [Exit.inBlock, Exit.then])
           refine bodyPost_ret (v := .tuple #[.agg #[.bool false, .int .u64 0, .slice none 0 0], .int .i64 0]) ?_ rfl (by first | exact ⟨rfl, ao, (hen5 _ _ _).2, by rw [← HWS.out]; exact (hen5 _ _ _).1⟩ | exact ⟨rfl, ⟨ao, (hen5 _ _ _).2⟩, by rw [← HWS.out]; exact (hen5 _ _ _).1⟩ | exact ⟨⟨ao, rfl, (hen5 _ _ _).2⟩, by rw [← HWS.out]; exact (hen5 _ _ _).1⟩)
           rw [results_cell_tmp rfl]
           simp [asAddr, Result.andThen, box3_load (box3_set hbx5 (.bool false) (.int .u64 0) (.slice none 0 0))])
end Go.Proofs.Ytecljiefljgfmaa
