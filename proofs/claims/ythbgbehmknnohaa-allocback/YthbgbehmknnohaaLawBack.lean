/-
  AllocBack: the law's walk.
-/
import Derived.Test.YthbgbehmknnohaaBackM
namespace Go.Proofs.Ythbgbehmknnohaa
open Go.RowKit Go.Shelf

set_option maxRecDepth 100000 in
set_option maxHeartbeats 8000000 in
theorem back_walk (n k : Int) (a1 : Option Addr) (c1 : Nat) (ops : List OpT) (w : World) (h1 : Ops w a1 ops) :
    Calls Try.prog 4 #[.int .i64 n, .slice a1 ops.length c1, .int .i64 k] w fun e w' => e = .returned (.bool true) ∧ Below w.heap.size w w' := by
  by_cases hb : n < 0 ∨ 4096 < n
  · have hnew := new_bad w n hb
    clear hb h1
    go_enter Try.func4, Try.ntmps4
    go_wp2_with (first
      | (go_at_call 6; refine Calls.mono hnew ?_; rintro e w1 ⟨rfl, rfl⟩)
      | (go_at_call 8; refine Calls.mono (awake_any _) ?_; rintro e w2 ⟨rfl, b2⟩))
    go_ret
    exact ⟨rfl, b2⟩
  · obtain ⟨N, rfl⟩ : ∃ N : Nat, n = (N : Int) := ⟨n.toNat, by omega⟩
    have hnew := new_ok w N (by omega)
    have HI : Hid (Ops w a1 ops) := h1
    have hN4 : N ≤ 4096 := by omega
    clear hb h1
    go_enter Try.func4, Try.ntmps4
    go_wp2_with fail
    refine Calls.mono hnew ?_
    rintro e w1 ⟨rfl, q1, b1⟩
    have HF : Hid (BI w w.heap.size N (List.replicate N false) w1) := ⟨q1, by simp, b1, Nat.le_refl _⟩
    obtain ⟨b, hbe⟩ : ∃ b, b = w.heap.size := ⟨_, rfl⟩
    rw [← hbe] at HF ⊢
    clear hnew q1 b1 hbe
    go_wp2
    go_loopw [9] (fun v wr => ∃ (i : Nat) (L : List Bool), v = .int .i64 i ∧ i ≤ 60 ∧ BI w b N L wr) (fun v _ => 60 - (intOf v).toNat)
    case atStart => exact ⟨0, _, rfl, by omega, HF.out⟩
    case round =>
      obtain ⟨i, L, rfl, hi60, hfi⟩ := hrel
      clear HF
      by_cases hlt : i < ops.length ∧ i < 60
      · obtain ⟨sb, so, rfl, hsm, hcs⟩ := HI.out.at hlt.1
        have t1 : (i : Int) < (ops.length : Int) := by omega
        have t2 : (i : Int) < 60 := by omega
        obtain ⟨e0, e1, e2⟩ := hcs wr hfi.old
        obtain ⟨o, ho⟩ : ∃ o, o = ops[i] := ⟨_, rfl⟩
        rw [← ho] at hsm hcs e0 e1 e2
        obtain ⟨kd, A, K⟩ := o
        dsimp only at hsm hcs e0 e1 e2
        have HFI : Hid (BI w b N L wr) := hfi
        clear ho
        by_cases hkd : kd = 0
        · subst hkd
          have htk := take_any wr b L K hfi.sp
          obtain ⟨x0, hx0⟩ : ∃ x, x = (takeF L K).1 := ⟨_, rfl⟩
          obtain ⟨x1, hx1⟩ : ∃ x, x = (takeF L K).2.1 := ⟨_, rfl⟩
          rw [← hx0, ← hx1] at htk
          clear hx0 hx1 hfi hcs
          go_wp2_with (go_at_call 9; refine Calls.mono htk ?_; rintro e w2 ⟨rfl, q1, q2⟩)
          go_roundw
          case rel => exact ⟨i + 1, _, by go_num, by omega, HFI.out.step q1 (takeF_len L K) q2⟩
          case measure => simp [intOf]; omega
        · have hkb : (kd == 0) = false := by simpa using hkd
          have hgv := give_any wr.drew b L A K (hfi.drew).sp hsm
          obtain ⟨x0, hx0⟩ : ∃ x : Int, x = (if turnB L A K true then 0 else 1) := ⟨_, rfl⟩
          rw [← hx0] at hgv
          obtain ⟨L', hL'⟩ : ∃ L', L' = (if turnB L A K true then putB L A.toNat K.toNat false else L) := ⟨_, rfl⟩
          rw [← hL'] at hgv
          have HL' : Hid (L'.length = L.length) := (by show _ = _; rw [hL']; exact turn_len)
          have HC : Hid (∀ w5, Kep (fun q => q ≠ b) wr.drew w5 → w5.cell? ⟨sb, so + i * 3 + 1, none⟩ = some (.int .i64 A) ∧ w5.cell? ⟨sb, so + i * 3 + 2, none⟩ = some (.int .i64 K)) := (by
            intro w5 q2
            have h5 := hcs w5 (by
              have hh := hfi.drew
              have h2 := hh.hb
              exact hh.old.trans ((q2.mono (K' := fun q => q < w.heap.size) fun q _ h3 => by omega).below hh.old.size))
            exact ⟨h5.2.1, h5.2.2⟩)
          clear hx0 hL' hfi hcs
          go_wp2
          go_region_held3 (fun w' => w'.cell? ⟨sb, so + i * 3 + 1, none⟩ = some (.int .i64 A) ∧ w'.cell? ⟨sb, so + i * 3 + 2, none⟩ = some (.int .i64 K)) (go_keep)
            (first
              | (go_at_call 11; refine Calls.mono hgv ?_; rintro e w5 ⟨rfl, q1, q2, q3⟩; have s0 := (HC.out w5 q2).1; have s1 := (HC.out w5 q2).2))
          go_wp2
          go_roundw
          case rel => exact ⟨i + 1, _, by go_num, by omega, HFI.out.drew.step q1 HL'.out q2⟩
          case measure => simp [intOf]; omega
      · go_upto_region 5 with fail
        go_cut [37] from 30 to 37 (fun s w' => s = .bool false ∧ w' = wr)
        case first =>
          by_cases h6 : i < ops.length
          · have t1 : (i : Int) < (ops.length : Int) := by omega
            have t2 : ¬ (i : Int) < 60 := by omega
            go_wp2
            go_meet
            case rel => exact ⟨rfl, rfl⟩
          · have t1 : ¬ (i : Int) < (ops.length : Int) := by omega
            go_wp2
            go_meet
            case rel => exact ⟨rfl, rfl⟩
        case rest =>
          obtain ⟨rfl, rfl⟩ := hcut
          have hrn := runsM_any wc b L hfi.sp
          obtain ⟨xs, hxs⟩ : ∃ xs, xs = runsL L := ⟨_, rfl⟩
          obtain ⟨R, hR⟩ : ∃ R, R = xs.length := ⟨_, rfl⟩
          rw [← hxs, ← hR] at hrn
          have HX : Hid (xs = runsL L ∧ R = xs.length) := ⟨hxs, hR⟩
          have hR4 : R ≤ 4096 := by rw [hR, hxs]; exact Nat.le_trans (runs_len L) hfi.sp.len
          clear hxs hR
          have HB : Hid (BI w b N L wc) := hfi
          clear hfi hlt HI hi60
          go_wp2_with (go_at_call 20; refine Calls.mono hrn ?_; rintro e w2 ⟨ar, cr, rfl, hrw, b2⟩)
          have HBR : Hid (BR w b N L wc.heap.size ar xs w2) := ⟨HB.out.below b2, hrw, HB.out.sp.lt⟩
          obtain ⟨B, hBe⟩ : ∃ B, B = wc.heap.size := ⟨_, rfl⟩
          rw [← hBe] at HBR
          clear hrn hrw b2 HB hBe
          go_loopw [11, 12, 13] (fun s m x wr => ∃ j : Nat, x = .int .i64 j ∧ j ≤ R ∧ s = .int .i64 ((sumR (xs.take j) : Nat) : Int) ∧ m = .int .i64 ((mxR (xs.take j) : Nat) : Int) ∧ BR w b N L B ar xs wr) (fun _ _ x _ => R - (intOf x).toNat)
          case atStart => exact ⟨0, rfl, Nat.zero_le _, rfl, rfl, HBR.out⟩
          case round =>
            obtain ⟨j, rfl, hj, rfl, rfl, hbr⟩ := hrel
            clear HBR
            by_cases hjl : j < R
            · have hjI : (j : Int) < (R : Int) := by omega
              have hjx : j < xs.length := by have := HX.out.2; omega
              obtain ⟨g, rfl, hc⟩ := hbr.rw.at hjx
              have hmem := runs_mem (L := L) (x := xs[j]) (by rw [← HX.out.1]; exact List.getElem_mem hjx)
              have hl4 := hbr.bi.sp.len
              obtain ⟨d0, d1⟩ := hc j hjx
              have hst := sum_take hjx
              have hmt := mx_take hjx
              have hsle : sumR (xs.take j) ≤ 4096 := Nat.le_trans (sum_pre (List.take_prefix j xs)) (by rw [HX.out.1, runs_sum]; exact Nat.le_trans (count_le L) hl4)
              obtain ⟨p, hp⟩ : ∃ p, p = xs[j].1 := ⟨_, rfl⟩
              obtain ⟨q, hq⟩ : ∃ q, q = xs[j].2 := ⟨_, rfl⟩
              rw [← hp] at d0
              rw [← hq] at d1 hst hmt
              have hq1 : ¬ (q : Int) < 1 := by have := hmem.1; omega
              have hq2 : q ≤ 4096 := by have := hmem.2.1; omega
              obtain ⟨S, hS⟩ : ∃ S, S = sumR (xs.take j) := ⟨_, rfl⟩
              obtain ⟨M, hM⟩ : ∃ M, M = mxR (xs.take j) := ⟨_, rfl⟩
              rw [← hS] at hst hsle ⊢
              rw [← hM] at hmt ⊢
              obtain ⟨mm, hmm⟩ : ∃ mm, mm = max M q := ⟨_, rfl⟩
              have HMX : Hid ((if M < q then (q : Int) else (M : Int)) = (mm : Int)) := (by
                show _ = _
                rw [hmm]
                rcases Nat.lt_or_ge M q with h | h
                · rw [if_pos (by omega), Nat.max_eq_right (by omega)]
                · rw [if_neg (by omega), Nat.max_eq_left h])
              rw [← hmm] at hmt
              have HE : Hid (sumR (xs.take (j + 1)) = S + q ∧ mxR (xs.take (j + 1)) = mm ∧ BR w b N L B (some ⟨g, 0, none⟩) xs wr) := ⟨hst, hmt, hbr⟩
              have HAP : Hid (∀ j', j = j' + 1 → ∃ p' q' : Nat, p' + q' < p ∧ p' ≤ 4096 ∧ q' ≤ 4096 ∧ wr.cell? ⟨g, j' * 2, none⟩ = some (.int .i64 (p' : Int)) ∧ wr.cell? ⟨g, j' * 2 + 1, none⟩ = some (.int .i64 (q' : Int))) := (by
                rintro j' rfl
                have h5 := apart_at (xs := xs) (by rw [HX.out.1]; exact runs_apart L) hjx
                obtain ⟨d2, d3⟩ := hc j' (by omega)
                have hm2 := runs_mem (L := L) (x := xs[j']) (by rw [← HX.out.1]; exact List.getElem_mem _)
                exact ⟨_, _, by rw [hp]; exact h5, by omega, by omega, d2, d3⟩)
              have hp4 : p ≤ 4096 := by have := hmem.2.1; omega
              clear hst hmt hbr hc hmem hl4 hp hq hS hM hmm
              go_wp2
              go_cut [103] from 73 to 103 (fun v wd => v = .bool false ∧ ∃ nq, wd = wr.drewN nq)
              case first =>
                by_cases hj0 : j = 0
                · have hjd : decide (0 < j) = false := decide_eq_false (by omega)
                  have hqd : decide ((q : Int) < 1) = false := decide_eq_false (by omega)
                  clear hj0 hq1
                  go_quiet (fail)
                  go_wp2
                  go_meet
                  case rel => exact ⟨rfl, _, rfl⟩
                · obtain ⟨j', hj'⟩ : ∃ j', j = j' + 1 := ⟨j - 1, by omega⟩
                  obtain ⟨p', q', hlt', hp', hq', d2, d3⟩ := HAP.out j' hj'
                  have hjm : IntKind.i64.wrap ((j : Int) - 1) = (j' : Int) := by rw [IntKind.wrap_i64]; omega
                  have hjn : 0 < j := by omega
                  have hjr : (j' : Int) < (R : Int) := by omega
                  have hqd : decide ((q : Int) < 1) = false := decide_eq_false (by omega)
                  have hge : decide ((p : Int) ≤ (p' : Int) + (q' : Int)) = false := decide_eq_false (by omega)
                  have hge2 : decide (p ≤ p' + q') = false := decide_eq_false (by omega)
                  have hwp : IntKind.i64.wrap ((p' : Int) + (q' : Int)) = (p' : Int) + (q' : Int) := by rw [IntKind.wrap_i64]; omega
                  clear hj0 hj' hlt' hp' hq' hq1
                  go_quiet (fail)
                  go_wp2
                  go_meet
                  case rel => exact ⟨rfl, _, rfl⟩
              case rest =>
                obtain ⟨rfl, nq, rfl⟩ := hcut
                clear hq1
                go_wp2
                go_roundw
                case rel => exact ⟨j + 1, by go_num, by omega, by rw [HE.out.1]; go_num, by rw [HE.out.2.1, HMX.out], HE.out.2.2.drewN nq⟩
                case measure => simp [intOf]; omega
            · obtain rfl : R = j := by omega
              have hjI : ¬ (R : Int) < (R : Int) := by omega
              have hta : xs.take R = xs := by rw [HX.out.2]; exact List.take_length
              have hsm : sumR xs = L.count false := by rw [HX.out.1, runs_sum]
              rw [hta, hsm]
              have htk := take_any wr b L k hbr.bi.sp
              have HBR : Hid (BR w b N L B ar xs wr) := hbr
              have hbc := back_cases L k
              rw [← HX.out.1] at hbc
              have hc4 : L.count false ≤ 4096 := Nat.le_trans (count_le L) hbr.bi.sp.len
              have HM4 : Hid (mxR xs ≤ 4096) := (by rw [HX.out.1]; exact Nat.le_trans mx_le hbr.bi.sp.len)
              obtain ⟨M, hM⟩ : ∃ M, M = mxR xs := ⟨_, rfl⟩
              rw [← hM] at hbc HM4 ⊢
              clear hta hsm hbr hM
              rcases hbc with ⟨e1, e2, e3⟩ | ⟨X, K, rfl, hK1, hKM, e1, e2, hw, e4⟩
              · obtain ⟨f0, hf0⟩ : ∃ x, x = (takeF L k).2.1 := ⟨_, rfl⟩
                obtain ⟨at0, hat0⟩ : ∃ x, x = (takeF L k).1 := ⟨_, rfl⟩
                rw [← hf0, ← hat0, e2] at htk
                rw [← hf0] at e1
                have hfb : (f0 == 0) = false := by simpa using e1
                have hfr : ∀ w3, BR w b N L B ar xs w3 → Calls Try.prog 17 #[.pointer (some ⟨b, 0, none⟩)] w3 fun e w' => e = .returned (.int .i64 ((L.count false : Nat) : Int)) ∧ Below w3.heap.size w3 w' := fun w3 h3 => free_any w3 b L h3.bi.sp
                have HFR : Hid _ := hfr
                have HTO : Hid (∀ w3, Calls Try.prog 22 #[.int .i64 f0, .int .i64 k] w3 fun r w' => r = .returned (.int .i64 0) ∧ w3 = w') := (by
                  intro w3
                  have := took_any w3 f0 k
                  rw [if_neg e1] at this
                  exact this)
                clear hf0 hat0 e2 hfr
                go_upto_region 20 with (go_at_call 9; refine Calls.mono htk ?_; rintro e w3 ⟨rfl, q1, q2⟩)
                have h3 := HBR.out.step q1 rfl q2
                have t3 := HFR.out w3 h3
                clear htk q1 q2 HFR HBR e1
                go_cut [143] from 124 to 143 (fun v wd => v = .bool false ∧ BR w b N L B ar xs wd)
                case first =>
                  by_cases hk1 : 1 ≤ k
                  · have hkM : ¬ k ≤ (M : Int) := fun h => e3 ⟨hk1, h⟩
                    clear e3
                    go_wp2_with fail
                    refine Calls.mono t3 ?_
                    rintro e w4 ⟨rfl, b4⟩
                    have h4 := h3.below b4
                    have t4 := HTO.out w4
                    clear t3 HTO b4 h3
                    go_wp2_with fail
                    refine Calls.mono t4 ?_
                    rintro e w5 ⟨rfl, rfl⟩
                    clear t4
                    go_wp2
                    go_meet
                    case rel => exact ⟨by rw [decide_eq_false (by omega : ¬ k ≤ (M : Int))], h4⟩
                  · clear e3
                    go_wp2_with fail
                    refine Calls.mono t3 ?_
                    rintro e w4 ⟨rfl, b4⟩
                    have h4 := h3.below b4
                    have t4 := HTO.out w4
                    clear t3 HTO b4 h3
                    go_wp2_with fail
                    refine Calls.mono t4 ?_
                    rintro e w5 ⟨rfl, rfl⟩
                    clear t4
                    go_wp2
                    go_meet
                    case rel => exact ⟨rfl, h4⟩
                case rest =>
                  obtain ⟨rfl, h4⟩ := hcut
                  have hrn2 := runsM_any wc b L h4.bi.sp
                  rw [← HX.out.1, ← HX.out.2] at hrn2
                  have HB2 : Hid (BR w b N L B ar xs wc) := h4
                  clear h4
                  go_wp2_with (go_at_call 20; refine Calls.mono hrn2 ?_; rintro e w7 ⟨an, cn, rfl, hrwn, b7⟩)
                  have HB7 : Hid (BR w b N L B ar xs w7 ∧ Rws w7 wc.heap.size an xs) := ⟨HB2.out.below b7, hrwn⟩
                  clear hrn2 hrwn b7 HB2
                  go_loopw [17] (fun x wr => ∃ j : Nat, x = .int .i64 j ∧ j ≤ R ∧ BR w b N L B ar xs wr ∧ Rws wr wc.heap.size an xs) (fun x _ => R - (intOf x).toNat)
                  case atStart => exact ⟨0, rfl, Nat.zero_le _, HB7.out.1, HB7.out.2⟩
                  case round =>
                    obtain ⟨j, rfl, hj, hbr, hrw2⟩ := hrel
                    by_cases hjl : j < R
                    · have hjI : (j : Int) < (R : Int) := by omega
                      have hjx : j < xs.length := by have := HX.out.2; omega
                      obtain ⟨g, rfl, hc⟩ := hbr.rw.at hjx
                      obtain ⟨g2, rfl, hc2⟩ := hrw2.at hjx
                      obtain ⟨d0, d1⟩ := hc j hjx
                      obtain ⟨d2, d3⟩ := hc2 j hjx
                      obtain ⟨p, hp⟩ : ∃ p, p = xs[j].1 := ⟨_, rfl⟩
                      obtain ⟨q, hq⟩ : ∃ q, q = xs[j].2 := ⟨_, rfl⟩
                      rw [← hp] at d0 d2
                      rw [← hq] at d1 d3
                      have HE : Hid (BR w b N L B (some ⟨g, 0, none⟩) xs wr ∧ Rws wr wc.heap.size (some ⟨g2, 0, none⟩) xs) := ⟨hbr, hrw2⟩
                      have he48 := fun wx => eq48 (p : Int) (q : Int) wx
                      clear hp hq hc hc2 hbr hrw2
                      go_wp2
                      go_quiet (fail)
                      go_wp2
                      go_roundw
                      case rel => exact ⟨j + 1, by go_num, by omega, HE.out.1.drewN _, HE.out.2.below ⟨rfl, rfl, rfl, Nat.le_refl _, fun _ _ => rfl⟩⟩
                      case measure => simp [intOf]; omega
                    · obtain rfl : R = j := by omega
                      have hjI : ¬ (R : Int) < (R : Int) := by omega
                      go_wp2_with (go_at_call 8; refine Calls.mono (awake_any _) ?_; rintro e w8 ⟨rfl, b8⟩)
                      go_ret
                      exact ⟨rfl, hbr.bi.old.trans (b8.mono hbr.bi.old.size)⟩
              · rw [e4] at htk
                have e1' := e1
                rw [e1, e2] at htk
                have HW : Hid (winP L K X ∧ 1 ≤ K) := ⟨hw, hK1⟩
                have hsum : ((L.count false : Nat) : Int) = (((putB L X K true).count false : Nat) : Int) + (K : Int) := by
                  have := count_put hw.1 hw.2
                  omega
                obtain ⟨C, hC⟩ : ∃ C, C = (putB L X K true).count false := ⟨_, rfl⟩
                rw [← hC] at hsum
                have hK4 : K ≤ 4096 := by omega
                have HFR : Hid (∀ w3, BR w b N (putB L X K true) B ar xs w3 → Calls Try.prog 17 #[.pointer (some ⟨b, 0, none⟩)] w3 fun e w' => e = .returned (.int .i64 (C : Int)) ∧ Below w3.heap.size w3 w') := (by
                  intro w3 h3
                  have := free_any w3 b _ h3.bi.sp
                  rw [← hC] at this
                  exact this)
                have HTO : Hid (∀ w3, Calls Try.prog 22 #[.int .i64 0, .int .i64 (K : Int)] w3 fun r w' => r = .returned (.int .i64 (K : Int)) ∧ w3 = w') := (by
                  intro w3
                  have := took_any w3 0 (K : Int)
                  rw [if_pos rfl] at this
                  exact this)
                have HSU : Hid (((L.count false : Nat) : Int) = (C : Int) + (K : Int)) := hsum
                have hC4 : C ≤ 4096 := by omega
                clear e1 e2 e4 e1' hw hC hsum
                go_upto_region 20 with (go_at_call 9; refine Calls.mono htk ?_; rintro e w3 ⟨rfl, q1, q2⟩)
                have h3 := HBR.out.step q1 (putB_len _ HW.out.1.1) q2
                have t3 := HFR.out w3 h3
                clear htk q1 q2 HFR HBR
                go_cut [143] from 124 to 143 (fun v wd => v = .bool false ∧ BR w b N (putB L X K true) B ar xs wd)
                case first =>
                  have hkM : (K : Int) ≤ (M : Int) := by omega
                  have hk1 : (1 : Int) ≤ (K : Int) := by omega
                  have hsum : (((L.count false : Nat) : Int) != (C : Int) + (K : Int)) = false := by rw [HSU.out]; simp
                  go_wp2_with fail
                  refine Calls.mono t3 ?_
                  rintro e w4 ⟨rfl, b4⟩
                  have h4 := h3.below b4
                  have t4 := HTO.out w4
                  clear t3 HTO b4 h3
                  go_wp2_with fail
                  refine Calls.mono t4 ?_
                  rintro e w5 ⟨rfl, rfl⟩
                  clear t4
                  go_wp2
                  go_meet
                  case rel => exact ⟨rfl, h4⟩
                case rest =>
                  obtain ⟨rfl, h4⟩ := hcut
                  have hgv := give_any wc b (putB L X K true) (X : Int) (K : Int) h4.bi.sp (by have h7 := HW.out.1.1; have h8 := h4.bi.sp.len; rw [putB_len _ h7] at h8; omega)
                  have hT : turnB (putB L X K true) (X : Int) (K : Int) true = true := turnB_iff.2 ⟨by omega, by omega, by rw [putB_len _ HW.out.1.1]; have := HW.out.1.1; omega, by simpa using putB_all true HW.out.1.1⟩
                  rw [hT, if_pos rfl, if_pos rfl, Int.toNat_natCast, Int.toNat_natCast, putB_back HW.out.1.1 HW.out.1.2] at hgv
                  have HG : Hid (BR w b N (putB L X K true) B ar xs wc) := h4
                  clear hT t3 h3 h4 HTO
                  go_upto_region 24 with (go_at_call 11; refine Calls.mono hgv ?_; rintro e w6 ⟨rfl, q1, q2, q3⟩)
                  have h6 := HG.out.step q1 (putB_len _ HW.out.1.1).symm q2
                  clear hgv q1 q2 q3 HG
                  have hrn2 := runsM_any w6 b L h6.bi.sp
                  rw [← HX.out.1, ← HX.out.2] at hrn2
                  have HB2 : Hid (BR w b N L B ar xs w6) := h6
                  clear h6
                  go_wp2_with (go_at_call 20; refine Calls.mono hrn2 ?_; rintro e w7 ⟨an, cn, rfl, hrwn, b7⟩)
                  have HB7 : Hid (BR w b N L B ar xs w7 ∧ Rws w7 w6.heap.size an xs) := ⟨HB2.out.below b7, hrwn⟩
                  clear hrn2 hrwn b7 HB2
                  go_loopw [17] (fun x wr => ∃ j : Nat, x = .int .i64 j ∧ j ≤ R ∧ BR w b N L B ar xs wr ∧ Rws wr w6.heap.size an xs) (fun x _ => R - (intOf x).toNat)
                  case atStart => exact ⟨0, rfl, Nat.zero_le _, HB7.out.1, HB7.out.2⟩
                  case round =>
                    obtain ⟨j, rfl, hj, hbr, hrw2⟩ := hrel
                    by_cases hjl : j < R
                    · have hjI : (j : Int) < (R : Int) := by omega
                      have hjx : j < xs.length := by have := HX.out.2; omega
                      obtain ⟨g, rfl, hc⟩ := hbr.rw.at hjx
                      obtain ⟨g2, rfl, hc2⟩ := hrw2.at hjx
                      obtain ⟨d0, d1⟩ := hc j hjx
                      obtain ⟨d2, d3⟩ := hc2 j hjx
                      obtain ⟨p, hp⟩ : ∃ p, p = xs[j].1 := ⟨_, rfl⟩
                      obtain ⟨q, hq⟩ : ∃ q, q = xs[j].2 := ⟨_, rfl⟩
                      rw [← hp] at d0 d2
                      rw [← hq] at d1 d3
                      have HE : Hid (BR w b N L B (some ⟨g, 0, none⟩) xs wr ∧ Rws wr w6.heap.size (some ⟨g2, 0, none⟩) xs) := ⟨hbr, hrw2⟩
                      have he48 := fun wx => eq48 (p : Int) (q : Int) wx
                      clear hp hq hc hc2 hbr hrw2
                      go_wp2
                      go_quiet (fail)
                      go_wp2
                      go_roundw
                      case rel => exact ⟨j + 1, by go_num, by omega, HE.out.1.drewN _, HE.out.2.below ⟨rfl, rfl, rfl, Nat.le_refl _, fun _ _ => rfl⟩⟩
                      case measure => simp [intOf]; omega
                    · obtain rfl : R = j := by omega
                      have hjI : ¬ (R : Int) < (R : Int) := by omega
                      go_wp2_with (go_at_call 8; refine Calls.mono (awake_any _) ?_; rintro e w8 ⟨rfl, b8⟩)
                      go_ret
                      exact ⟨rfl, hbr.bi.old.trans (b8.mono hbr.bi.old.size)⟩
end Go.Proofs.Ythbgbehmknnohaa
