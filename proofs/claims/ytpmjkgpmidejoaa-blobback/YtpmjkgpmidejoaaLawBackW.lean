/-
  BlobBack walked: the law itself.
-/
import Derived.Test.YtpmjkgpmidejoaaBackR
namespace Go.Proofs.Ytpmjkgpmidejoaa
open Go.RowKit

set_option maxHeartbeats 4000000 in
set_option maxRecDepth 100000 in
theorem back_walk (w : World) (a : Option Addr) (Ls : List (List UInt8)) (cap : Nat) (hL : Rbs w a Ls) (hLl : Ls.length ≤ 9223372036854775807) (da : Option Addr) (dl : List Bool) (dc : Nat) (hD : Bools w da dl) (piece : Int) (hpc : piece ≤ 9223372036854775807) :
    Calls Try.prog 5 #[.slice a Ls.length cap, .slice da dl.length dc, .int .i64 piece] w fun e w' => e = .returned (.bool true) ∧ Below w.heap.size w w' := by
  obtain ⟨m, hm⟩ : ∃ m, m = Ls.length := ⟨_, rfl⟩
  obtain ⟨dn, hdn⟩ : ∃ dn, dn = dl.length := ⟨_, rfl⟩
  have HM : Hid (m = Ls.length ∧ Rbs w a Ls ∧ dn = dl.length ∧ Bools w da dl) := ⟨hm, hL, hdn, hD⟩
  rw [← hm] at hLl ⊢
  rw [← hdn]
  clear hm hL hdn hD
  obtain ⟨M0, hM0⟩ : ∃ M0, M0 = D.new 80 blank := ⟨_, rfl⟩
  have HC0 : Hid (Calm M0 ∧ M0.S.length = 80) := ⟨by rw [hM0]; exact new_calm 80, by rw [hM0]; simp [D.new]⟩
  have hc0L : M0.L.length = 80 := by rw [hM0]; simp [D.new]
  have hnew := dl_new w w K0 (fun k hk => hk.elim) (Below.refl _ _) 80 (by omega) (by omega)
  rw [← hM0] at hnew
  have HO : Hid (∀ w1 d, DL w K0 d M0 w1 → Calls Try.prog 11 #[.pointer (some ⟨d, 0, none⟩), .int .i64 10, .int .i64 60, .slice none 0 0] w1 fun e w' => ∃ b s, e = .returned (.tuple #[.pointer (some ⟨b, 0, none⟩), .int .i64 0]) ∧ Hid (BI w b d s M0 (pre 0 60) [] (.slice none 0 0) [] (.slice none 0 0) w')) := (by
    intro w1 d hd
    refine (bl_open w w1 K0 d 10 60 M0 hd (by rw [hc0L]; omega) none [] 0 (refs_nil _) (by simp) (pre 0 60) (by rw [← pre_new]; rfl)).mono ?_
    rintro e w' ⟨b, s, rfl, q1, _⟩
    exact ⟨b, s, rfl, ⟨q1.less fun k h => by simp [Value.ownBlock] at h, World.ownsRow_nil _ _ _ _, World.ownsRow_nil _ _ _ _, fun k h => by simp [Value.ownBlock] at h⟩⟩)
  have HAW : Hid (∀ w8, Below w.heap.size w w8 → Calls Try.prog 8 #[] w8 fun e w9 => e = .returned (.bool true) ∧ Below w.heap.size w w9) := fun w8 q => (awake_any w8).mono fun e w9 h3 => ⟨h3.1, q.trans (h3.2.mono q.size)⟩
  clear hM0 hc0L
  by_cases h20 : 20 < m ∨ piece < 1
  · rcases (by omega : 20 < m ∨ (m ≤ 20 ∧ piece < 1)) with h20 | ⟨h20, hp⟩
    · have t1 : (20 : Int) < (m : Int) := by omega
      clear h20 HM HC0
      go_enter Try.func5, Try.ntmps5
      go_wp2_with (first
        | (go_at_call 9; refine Calls.mono hnew ?_; rintro e w1 ⟨d, rfl, q1, q2⟩; have ho := HO.out w1 d q1; clear q1 q2)
        | (go_at_call 11; refine Calls.mono ho ?_; rintro e w2 ⟨b, s, rfl, HB⟩; have haw := HAW.out w2 HB.out.bl.old)
        | (go_at_call 8; refine Calls.mono haw ?_; rintro e w9 ⟨rfl, q9⟩))
      go_ret
      exact ⟨rfl, q9⟩
    · have t1 : ¬ (20 : Int) < (m : Int) := by omega
      clear h20 HM HC0
      go_enter Try.func5, Try.ntmps5
      go_wp2_with (first
        | (go_at_call 9; refine Calls.mono hnew ?_; rintro e w1 ⟨d, rfl, q1, q2⟩; have ho := HO.out w1 d q1; clear q1 q2)
        | (go_at_call 11; refine Calls.mono ho ?_; rintro e w2 ⟨b, s, rfl, HB⟩; have haw := HAW.out w2 HB.out.bl.old)
        | (go_at_call 8; refine Calls.mono haw ?_; rintro e w9 ⟨rfl, q9⟩))
      go_ret
      exact ⟨rfl, q9⟩
  · have t1 : ¬ (20 : Int) < (m : Int) := by omega
    have t2 : ¬ piece < 1 := by omega
    have hm20 : m ≤ 20 := by omega
    clear h20
    go_enter Try.func5, Try.ntmps5
    go_wp2_with (first
      | (go_at_call 9; refine Calls.mono hnew ?_; rintro e w1 ⟨d, rfl, q1, q2⟩; have ho := HO.out w1 d q1; clear q1 q2)
      | (go_at_call 11; refine Calls.mono ho ?_; rintro e w2 ⟨b, s, rfl, HB⟩))
    clear ho hnew HO
    go_loopw [11, 12, 13, 14] (fun rvv dvv us i wr => ∃ (k u : Nat) (M : D) (rs : List (Nat × Nat)) (ds : List (List UInt8)) (dvs : List Value), k ≤ m ∧ us = .int .i64 u ∧ i = .int .i64 k ∧ BI w b d s M (pre u (60 - u)) rs rvv dvs dvv wr ∧ PI w M u rs ds dvs ∧ rs.length ≤ k) (fun _ _ _ i _ => m - (intOf i).toNat)
    case atStart => exact ⟨0, 0, M0, [], [], [], Nat.zero_le _, rfl, rfl, HB.out, ⟨HC0.out.1, HC0.out.2, by omega, rfl, rfl, rfl, fun j h => by simp at h, fun j h => by simp at h, fun j h => by simp at h⟩, Nat.le_refl _⟩
    case round =>
      obtain ⟨k, u, M, rs, ds, dvs, hk, rfl, rfl, hBI, hPI, hrk⟩ := hrel
      clear HB HC0
      by_cases hlt : k < m
      · have hki : (k : Int) < (m : Int) := by omega
        obtain ⟨lb, off, ad, lc, rfl, hcell, hby, hlc, hno, hlm⟩ := HM.out.2.1.at (j := k) (by have := HM.out.1; omega)
        obtain ⟨l, hl⟩ : ∃ l, l = Ls[k]'(by have := HM.out.1; omega) := ⟨_, rfl⟩
        rw [← hl] at hcell hby hlc hlm
        obtain ⟨va, vc, rfl⟩ : ∃ a c, u11 = .slice a rs.length c := Al.own_slice hBI.r1
        obtain ⟨wa, wc, rfl⟩ : ∃ a c, u12 = .slice a dvs.length c := Al.own_slice hBI.r2
        have hu60 := hPI.u60
        have c1 := hcell wr hBI.bl.old
        have hwr := bi_write hBI hPI.calm (by rw [hPI.len]; omega) ad l lc (hby.below hBI.bl.old (Nat.le_refl _)) (fun hne ad' e => hby.lt hne ad' e) hlc hlm
        have hsec := fun w => sectors_any (l.length : Int) w (by omega)
        rw [secI_nat] at hsec
        obtain ⟨n, hn⟩ : ∃ n, n = l.length := ⟨_, rfl⟩
        rw [← hn] at hwr hsec c1 hlm hcell
        obtain ⟨K, hK⟩ : ∃ K, K = nsec n := ⟨_, rfl⟩
        rw [← hK] at hwr hsec
        have hK0 : n = 0 → K = 0 := by rintro rfl; rw [hK]; rfl
        have HCE : Hid (∀ w', Below w.heap.size w w' → w'.cell? ⟨lb, off + k, none⟩ = some (.slice ad n lc)) := hcell
        by_cases hle : u + K ≤ 60
        · have HW : Hid (Calls Try.prog 13 #[.pointer (some ⟨b, 0, none⟩), .slice ad n lc] wr fun e w3 => ∃ S : Nat, e = .returned (.tuple #[rv (S : Int) (n : Int), .int .i64 0]) ∧ Hid (∃ M', WI w b d s u K n S l rs (.slice va rs.length vc) ds dvs (.slice wa dvs.length wc) M' w3)) := (by
            refine hwr.mono ?_
            rintro e w3 (⟨h1, rfl, h2⟩ | ⟨h1, h2, rfl, h3⟩ | ⟨h1, h2, _, _⟩)
            · have e0 := hK0 h1
              refine ⟨0, by rw [h1]; rfl, M, ⟨by rw [e0, Nat.add_zero]; exact h2, hPI, .inl ⟨by rw [← hn]; exact h1, rfl⟩, fun j hj => ?_, hn, hK, hle⟩⟩
              rw [← hn, h1] at hj
              simp [nsec] at hj
            · refine ⟨u, rfl, putD M (10 + u) l, ⟨by rw [show 60 - (u + K) = 60 - u - K from by omega]; exact h3, hPI.put l (by rw [← hn, ← hK]; exact hle), .inr ⟨by rw [← hn]; exact h1, rfl⟩, putD_lies (by rw [← hn, ← hK, hPI.len]; omega), hn, hK, hle⟩⟩
            · omega)
          have HBY : Hid (Bytes w ad l ∧ rs.length ≤ k ∧ PI w M u rs ds dvs) := ⟨hby, hrk, hPI⟩
          have hKb : K ≤ 60 := by omega
          have hub : u ≤ 60 := hu60
          clear hwr hBI hPI hrk hl hcell hby hlc hno hle hn hK hK0 hlm hu60
          have HKP : Hid (∀ S w3, (∃ M', WI w b d s u K n S l rs (.slice va rs.length vc) ds dvs (.slice wa dvs.length wc) M' w3) → ∃ a1 c1 w4, (∀ ty, (Builtin.append_ #[22, 22] ty #[.slice va rs.length vc, .slice (some ⟨w3.heap.size + 1, 0, none⟩) 1 1]).run Try.prog ((w3.alloc (.cells #[.int .i64 (S : Int), .int .i64 (n : Int)] 40)).alloc (.cells #[.int .i64 (S : Int), .int .i64 (n : Int)] 40)) = .ok (.slice a1 (rs.length + 1) c1) w4) ∧
              ∃ a2 c2 w5, (∀ ty, (Builtin.append_ #[71, 71] ty #[.slice wa dvs.length wc, .slice (some ⟨w4.heap.size, 0, none⟩) 1 1]).run Try.prog (w4.alloc (.cells #[.slice ad n lc] 38)) = .ok (.slice a2 (dvs.length + 1) c2) w5) ∧ w4.cell? ⟨lb, off + k, none⟩ = some (.slice ad n lc) ∧ w5.cell? ⟨lb, off + k, none⟩ = some (.slice ad n lc) ∧
                Hid (∃ M', BI w b d s M' (pre (u + K) (60 - (u + K))) (rs ++ [(S, n)]) (.slice a1 (rs.length + 1) c1) (dvs ++ [.slice ad n lc]) (.slice a2 (dvs.length + 1) c2) w5 ∧ PI w M' (u + K) (rs ++ [(S, n)]) (ds ++ [l]) (dvs ++ [.slice ad n lc]))) := (by
            rintro S w3 ⟨M', hW⟩
            obtain ⟨a1, c1, w4, g1, g2, a2, c2, w5, g3, g4, g5, g6⟩ := hW.keep (by have := HBY.out.2.1; omega) ad lc HBY.out.1
            exact ⟨a1, c1, w4, g1, a2, c2, w5, g3, HCE.out w4 g2, HCE.out w5 g4, M', g5, g6⟩)
          by_cases hkd : k < dn
          · have hkdI : (k : Int) < (dn : Int) := by omega
            obtain ⟨db, doff, rfl, hdc⟩ := HM.out.2.2.2.at (j := k) (by have := HM.out.2.2.1; omega)
            cases hfl : dl[k]'(by have := HM.out.2.2.1; omega) with
            | true =>
              rw [hfl] at hdc
              have HDR : Hid (∀ S w3, (∃ M', WI w b d s u K n S l rs (.slice va rs.length vc) ds dvs (.slice wa dvs.length wc) M' w3) → (w3.alloc (.cells #[.int .i64 (S : Int), .int .i64 (n : Int)] 40)).cell? ⟨db, doff + k, none⟩ = some (.bool true) ∧ Calls Try.prog 17 #[.pointer (some ⟨b, 0, none⟩), rv (S : Int) (n : Int)] (w3.alloc (.cells #[.int .i64 (S : Int), .int .i64 (n : Int)] 40)) fun e w5 => e = .returned (.int .i64 0) ∧ Hid (∃ M', BI w b d s M' (pre u (60 - u)) rs (.slice va rs.length vc) dvs (.slice wa dvs.length wc) w5 ∧ PI w M' u rs ds dvs)) := (by
                rintro S w3 ⟨M', hW⟩
                have hA : Below w3.heap.size w3 (w3.alloc (.cells #[.int .i64 (S : Int), .int .i64 (n : Int)] 40)) := (Below.refl _ w3).alloc (Nat.le_refl _) _
                refine ⟨hdc _ (hW.bi.below hA).bl.old, (hW.drop _ hA).mono ?_⟩
                rintro e w5 ⟨rfl, g1, g2⟩
                exact ⟨rfl, M', g1, g2⟩)
              clear hdc HKP hfl HM HCE
              go_wp2_with (first
                | (go_at_call 13; refine Calls.mono HW.out ?_; rintro e w3 ⟨S, rfl, HR⟩; obtain ⟨k3, hdr⟩ := HDR.out S w3 HR.out)
                | (go_at_call 17; refine Calls.mono hdr ?_; rintro e w5 ⟨rfl, HN⟩))
              obtain ⟨M', g1, g2⟩ := HN.out
              go_roundw
              case rel => exact ⟨k + 1, u, M', rs, ds, dvs, by omega, rfl, by go_num, g1, g2, by have := HBY.out.2.1; omega⟩
              case measure => simp [intOf]; omega
            | false =>
              rw [hfl] at hdc
              have HDF : Hid (∀ S w3, (∃ M', WI w b d s u K n S l rs (.slice va rs.length vc) ds dvs (.slice wa dvs.length wc) M' w3) → (w3.alloc (.cells #[.int .i64 (S : Int), .int .i64 (n : Int)] 40)).cell? ⟨db, doff + k, none⟩ = some (.bool false)) := (by
                rintro S w3 ⟨M', hW⟩
                have hA : Below w3.heap.size w3 (w3.alloc (.cells #[.int .i64 (S : Int), .int .i64 (n : Int)] 40)) := (Below.refl _ w3).alloc (Nat.le_refl _) _
                exact hdc _ (hW.bi.below hA).bl.old)
              clear hdc hfl HM HCE
              go_wp2_with (first
                | (go_at_call 13; refine Calls.mono HW.out ?_; rintro e w3 ⟨S, rfl, HR⟩; obtain ⟨a1, c1, w4, hr1, a2, c2, w5, hr2, k4, k5, HN⟩ := HKP.out S w3 HR.out; have k3 := HDF.out S w3 HR.out)
                | (at_builtin; refine wpList_append_run rfl (.tmp 92) (.tmp 94) 22 22 rfl _ _ rfl rfl _ _ hr1 ?_)
                | (at_builtin; refine wpList_append_run rfl (.tmp 96) (.tmp 101) 71 71 rfl _ _ rfl rfl _ _ hr2 ?_)
                | (go_at_call 28; refine Calls.mono (hsec _) ?_; rintro e w6 ⟨rfl, rfl⟩))
              obtain ⟨M', g1, g2⟩ := HN.out
              go_roundw
              case rel => exact ⟨k + 1, u + K, M', rs ++ [(S, n)], ds ++ [l], dvs ++ [.slice ad n lc], by omega, by go_num, by go_num, g1, g2, by have := HBY.out.2.1; simp; omega⟩
              case measure => simp [intOf]; omega
          · have hkdI : ¬ (k : Int) < (dn : Int) := by omega
            clear HM HCE
            go_wp2_with (first
              | (go_at_call 13; refine Calls.mono HW.out ?_; rintro e w3 ⟨S, rfl, HR⟩; obtain ⟨a1, c1, w4, hr1, a2, c2, w5, hr2, k4, k5, HN⟩ := HKP.out S w3 HR.out)
              | (at_builtin; refine wpList_append_run rfl (.tmp 92) (.tmp 94) 22 22 rfl _ _ rfl rfl _ _ hr1 ?_)
              | (at_builtin; refine wpList_append_run rfl (.tmp 96) (.tmp 101) 71 71 rfl _ _ rfl rfl _ _ hr2 ?_)
              | (go_at_call 28; refine Calls.mono (hsec _) ?_; rintro e w6 ⟨rfl, rfl⟩))
            obtain ⟨M', g1, g2⟩ := HN.out
            go_roundw
            case rel => exact ⟨k + 1, u + K, M', rs ++ [(S, n)], ds ++ [l], dvs ++ [.slice ad n lc], by omega, by go_num, by go_num, g1, g2, by have := HBY.out.2.1; simp; omega⟩
            case measure => simp [intOf]; omega
        · have HW : Hid (Calls Try.prog 13 #[.pointer (some ⟨b, 0, none⟩), .slice ad n lc] wr fun e w3 => e = .returned (.tuple #[rv 0 0, .int .i64 60]) ∧ Hid (BI w b d s M (pre u (60 - u)) rs (.slice va rs.length vc) dvs (.slice wa dvs.length wc) w3 ∧ PI w M u rs ds dvs ∧ rs.length ≤ k)) := (by
            refine hwr.mono ?_
            rintro e w3 (⟨h1, rfl, h2⟩ | ⟨h1, h2, rfl, h3⟩ | ⟨h1, h2, rfl, h3⟩)
            · have e0 := hK0 h1; omega
            · omega
            · exact ⟨rfl, h3, hPI, hrk⟩)
          clear hwr hBI hPI hrk hl hcell hby hlc hno hle hn hK hK0 hlm hu60 HM HCE
          go_wp2_with (go_at_call 13; refine Calls.mono HW.out ?_; rintro e w3 ⟨rfl, HR⟩)
          go_roundw
          case rel =>
            obtain ⟨g1, g2, g3⟩ := HR.out
            exact ⟨k + 1, u, M, rs, ds, dvs, by omega, rfl, by go_num, g1.below ((Below.refl _ w3).alloc (Nat.le_refl _) _), g2, by omega⟩
          case measure => simp [intOf]; omega
      · obtain rfl : k = m := by omega
        have hki : ¬ (k : Int) < (k : Int) := by omega
        obtain ⟨va, vc, rfl⟩ : ∃ a c, u11 = .slice a rs.length c := Al.own_slice hBI.r1
        obtain ⟨wa, wc, rfl⟩ : ∃ a c, u12 = .slice a dvs.length c := Al.own_slice hBI.r2
        have HCR : Hid (Calls Try.prog 19 #[.pointer (some ⟨d, 0, none⟩), .slice none 0 0] wr fun e w3 => e = .returned (.tuple #[]) ∧ Hid (BI w b d s (M.crash []) (pre u (60 - u)) rs (.slice va rs.length vc) dvs (.slice wa dvs.length wc) w3)) := (bl_crash w wr _ b d s 10 M _ hBI.bl (by rw [hPI.calm.c]; simp)).mono fun e w3 q => ⟨q.1, hBI.step q.2.1 q.2.2⟩
        have hP2 := hPI.crash
        obtain ⟨M2, hM2⟩ : ∃ M2, M2 = M.crash [] := ⟨_, rfl⟩
        rw [← hM2] at HCR hP2
        have HP : Hid (PI w M2 u rs ds dvs ∧ rs.length ≤ 20) := ⟨hP2, by omega⟩
        have HOP : Hid (∀ w3, BI w b d s M2 (pre u (60 - u)) rs (.slice va rs.length vc) dvs (.slice wa dvs.length wc) w3 → Calls Try.prog 11 #[.pointer (some ⟨d, 0, none⟩), .int .i64 10, .int .i64 60, .slice va rs.length vc] w3 fun e w4 => ∃ c s2, e = .returned (.tuple #[.pointer (some ⟨c, 0, none⟩), .int .i64 0]) ∧ Hid (TBk w b c d s s2 M2 (pre u (60 - u)) rs (.slice va rs.length vc) dvs (.slice wa dvs.length wc) w4)) := fun w3 h3 => bi_open h3 HP.out.1 HP.out.2
        obtain ⟨q, hq⟩ : ∃ q, q = 60 - u := ⟨_, rfl⟩
        have hu60 := hPI.u60
        have h60 : (60 : Int) - (u : Int) = (q : Int) := by omega
        have HFC : Hid (∀ w4 c s2, TBk w b c d s s2 M2 (pre u (60 - u)) rs (.slice va rs.length vc) dvs (.slice wa dvs.length wc) w4 → Calls Try.prog 25 #[.pointer (some ⟨c, 0, none⟩)] w4 fun e w5 => e = .returned (.int .i64 (q : Int)) ∧ Hid (TBk w b c d s s2 M2 (pre u (60 - u)) rs (.slice va rs.length vc) dvs (.slice wa dvs.length wc) w5)) := (by
          intro w4 c s2 h4
          obtain ⟨F, h5, h6⟩ := h4.two
          have := bfree_any w4 c d s2 10 _ h6.blb h6.sp
          rw [pre_count, ← hq] at this
          exact this.mono fun e w5 g => ⟨g.1, h4.below g.2⟩)
        have HFB : Hid (∀ w4 c s2, TBk w b c d s s2 M2 (pre u (60 - u)) rs (.slice va rs.length vc) dvs (.slice wa dvs.length wc) w4 → Calls Try.prog 25 #[.pointer (some ⟨b, 0, none⟩)] w4 fun e w5 => e = .returned (.int .i64 (q : Int)) ∧ Hid (TBk w b c d s s2 M2 (pre u (60 - u)) rs (.slice va rs.length vc) dvs (.slice wa dvs.length wc) w5)) := (by
          intro w4 c s2 h4
          obtain ⟨F, h5, h6⟩ := h4.two
          have := bfree_any w4 b d s 10 _ h5.blb h5.sp
          rw [pre_count, ← hq] at this
          exact this.mono fun e w5 g => ⟨g.1, h4.below g.2⟩)
        clear hBI hPI hrk hM2 hP2 hq HM
        go_wp2_with (first
          | (go_at_call 19; refine Calls.mono HCR.out ?_; rintro e w3 ⟨rfl, HB3⟩; have hop := HOP.out w3 HB3.out)
          | (go_at_call 11; refine Calls.mono hop ?_; rintro e w4 ⟨c, s2, rfl, HT4⟩; have hfc := HFC.out w4 c s2 HT4.out)
          | (go_at_call 25; (with_reducible refine Calls.mono hfc ?_); rintro e w5 ⟨rfl, HT5⟩; have hfb := HFB.out w5 c s2 HT5.out; clear hfc)
          | (go_at_call 25; (with_reducible refine Calls.mono hfb ?_); rintro e w6 ⟨rfl, HT6⟩))
        clear hop hfb HCR HOP HFC HFB HB3 HT4 HT5 h60
        obtain ⟨P, hP⟩ : ∃ P : Nat, piece = (P : Int) := ⟨piece.toNat, by omega⟩
        subst hP
        have hP1 : 1 ≤ P := by omega
        have hPm : P ≤ 9223372036854775807 := by omega
        obtain ⟨rl, hrl⟩ : ∃ rl, rl = rs.length := ⟨_, rfl⟩
        obtain ⟨dvl, hdvl⟩ : ∃ dvl, dvl = dvs.length := ⟨_, rfl⟩
        have HRL : Hid (rl = rs.length ∧ dvl = dvs.length) := ⟨hrl, hdvl⟩
        rw [← hrl, ← hdvl] at HT6
        rw [← hrl, ← hdvl]
        have hrl20 : rl ≤ 20 := by have := HP.out.2; omega
        have hdvrl : dvl = rl := by rw [hrl, hdvl, HP.out.1.l1, HP.out.1.l2]
        subst hdvrl
        clear hrl hdvl
        go_loopw [19] (fun i wr => ∃ jj : Nat, jj ≤ dvl ∧ i = .int .i64 jj ∧ TBk w b c d s s2 M2 (pre u (60 - u)) rs (.slice va dvl vc) dvs (.slice wa dvl wc) wr) (fun i _ => dvl - (intOf i).toNat)
        case atStart => exact ⟨0, Nat.zero_le _, rfl, HT6.out⟩
        case round =>
          obtain ⟨jj, hjj, rfl, hT⟩ := hrel
          clear HT6
          obtain ⟨wo, rfl⟩ : ∃ wo, wo = wr := ⟨_, rfl⟩
          by_cases hltj : jj < dvl
          · have hji : (jj : Int) < (dvl : Int) := by omega
            have hl1 := HP.out.1.l1
            have hl2 := HP.out.1.l2
            have hjr : jj < rs.length := by have := HRL.out.1; omega
            have hjd : jj < ds.length := by omega
            have hjv : jj < dvs.length := by omega
            obtain ⟨l, hl⟩ : ∃ l, l = ds[jj] := ⟨_, rfl⟩
            obtain ⟨S, hSe⟩ : ∃ S, S = rs[jj].1 := ⟨_, rfl⟩
            obtain ⟨xa, xc, hdv, hxb⟩ := HP.out.1.dv jj hjd
            have hsz := HP.out.1.sz jj hjd
            have hlie := HP.out.1.lie jj hjd
            have hmem := chain_mem rs 0 u HP.out.1.ch rs[jj] (List.getElem_mem _)
            rw [hsz, ← hl] at hmem
            rw [← hSe, ← hl] at hlie
            rw [← hl] at hdv hxb hsz
            rw [← hSe] at hmem
            obtain ⟨g1, c1, e1, _, g1l, _⟩ := owns_head hT.r1 (by omega)
            obtain ⟨g2, c2, e2, _, g2l, _⟩ := owns_head hT.r2 (by omega)
            simp only [Value.slice.injEq] at e1 e2
            obtain ⟨rfl, -, rfl⟩ := e1
            obtain ⟨rfl, -, rfl⟩ := e2
            have HCL : Hid (∀ w', TBk w b c d s s2 M2 (pre u (60 - u)) rs (.slice (some ⟨g1, 0, none⟩) dvl vc) dvs (.slice (some ⟨g2, 0, none⟩) dvl wc) w' → w'.cell? ⟨g1, jj * 2, none⟩ = some (.int .i64 (S : Int)) ∧ w'.cell? ⟨g1, jj * 2 + 1, none⟩ = some (.int .i64 (l.length : Int)) ∧ w'.cell? ⟨g2, jj, none⟩ = some (.slice xa l.length xc)) := (by
              intro w' h'
              have hr1 := h'.r1
              have hr2 := h'.r2
              rw [← HRL.out.1] at hr1
              rw [← HRL.out.2] at hr2
              refine ⟨?_, ?_, ?_⟩
              · rw [hSe]; exact owns_cell hr1 (rfs_get hjr).1
              · rw [← hsz]; exact owns_cell hr1 (rfs_get hjr).2
              · rw [← hdv]; exact owns_cell hr2 (List.getElem?_eq_getElem hjv))
            have hlb : l.length ≤ 15120 := by
              by_cases hz : l.length = 0
              · omega
              · have := (hmem.2 hz).2
                have h3 : l.length ≤ 252 * nsec l.length := by unfold nsec; omega
                have := HP.out.1.u60
                omega
            have HRC : Hid (∀ w' off n', TBk w b c d s s2 M2 (pre u (60 - u)) rs (.slice (some ⟨g1, 0, none⟩) dvl vc) dvs (.slice (some ⟨g2, 0, none⟩) dvl wc) w' → off + n' ≤ l.length → Calls Try.prog 15 #[.pointer (some ⟨c, 0, none⟩), rv (S : Int) (l.length : Int), .int .i64 (off : Int), .int .i64 (n' : Int)] w' fun e w'' => ∃ a c, e = .returned (.tuple #[.slice a n' c, .int .i64 0]) ∧ Bytes w'' a ((l.drop off).take n') ∧ (a = none → c = 0) ∧ Below w'.heap.size w' w'') := (by
              intro w' off n' h' hle
              obtain ⟨F, h5, h6⟩ := h'.two
              exact rd_lies h6 HP.out.1.calm HP.out.1.len HP.out.1.u60 S l hlie ⟨hmem.1, fun hz => (hmem.2 hz).2⟩ off n' hle)
            have HRB : Hid (∀ w' off n', TBk w b c d s s2 M2 (pre u (60 - u)) rs (.slice (some ⟨g1, 0, none⟩) dvl vc) dvs (.slice (some ⟨g2, 0, none⟩) dvl wc) w' → off + n' ≤ l.length → Calls Try.prog 15 #[.pointer (some ⟨b, 0, none⟩), rv (S : Int) (l.length : Int), .int .i64 (off : Int), .int .i64 (n' : Int)] w' fun e w'' => ∃ a c, e = .returned (.tuple #[.slice a n' c, .int .i64 0]) ∧ Bytes w'' a ((l.drop off).take n') ∧ (a = none → c = 0) ∧ Below w'.heap.size w' w'') := (by
              intro w' off n' h' hle
              obtain ⟨F, h5, h6⟩ := h'.two
              exact rd_lies h5 HP.out.1.calm HP.out.1.len HP.out.1.u60 S l hlie ⟨hmem.1, fun hz => (hmem.2 hz).2⟩ off n' hle)
            have HT : Hid (TBk w b c d s s2 M2 (pre u (60 - u)) rs (.slice (some ⟨g1, 0, none⟩) dvl vc) dvs (.slice (some ⟨g2, 0, none⟩) dvl wc) wo ∧ Bytes w xa l) := ⟨hT, hxb⟩
            obtain ⟨n, hn⟩ : ∃ n, n = l.length := ⟨_, rfl⟩
            rw [← hn] at HCL hlb HRC HRB
            have HN : Hid (n = l.length) := hn
            clear hT hl hSe hdv hxb hsz hlie hmem g1l g2l hjr hjd hjv hl1 hl2 hn
            go_wp2
            go_loopw [20, 21] (fun v i wr => ∃ t : Nat, i = .int .i64 t ∧ (t = 0 ∨ P ≤ t) ∧ t ≤ 9223372036854775807 ∧ Own wr wo.heap.size v (l.take t) ∧ Below wo.heap.size wo wr) (fun _ i _ => n - (intOf i).toNat)
            case atStart => exact ⟨0, rfl, .inl rfl, by omega, by rw [List.take_zero]; exact World.ownsRow_nil _ _ _ _, Below.refl _ _⟩
            case round =>
              obtain ⟨t, rfl, ht0, htm, hown, hbw⟩ := hrel
              have hTw := HT.out.1.below hbw
              obtain ⟨d0, d1, d2⟩ := HCL.out wr hTw
              by_cases htn : t < n
              · have htI : (t : Int) < (n : Int) := by omega
                obtain ⟨ya, yc, rfl⟩ : ∃ a c, u20 = .slice a (l.take t).length c := Al.own_slice hown
                obtain ⟨q', hq'⟩ : ∃ q', q' = min P (n - t) := ⟨_, rfl⟩
                have hmin : min (P : Int) ((n : Int) - (t : Int)) = (q' : Int) := by omega
                have hTd := hTw.below ((Below.refl _ wr).drew)
                have hrd := HRC.out wr.drew t q' hTd (by omega)
                have hXl : ((l.drop t).take q').length = q' := by rw [List.length_take, List.length_drop, ← HN.out]; omega
                have hnx : l.take t ++ (l.drop t).take q' = l.take (t + P) := by
                  rw [hq']
                  by_cases h5 : P ≤ n - t
                  · rw [Nat.min_eq_left h5, List.take_add]
                  · rw [Nat.min_eq_right (by omega), HN.out, ← List.take_add, List.take_of_length_le (by have := HN.out; omega), List.take_of_length_le (by have := HN.out; omega)]
                have HX : Hid (Calls Try.prog 15 #[.pointer (some ⟨c, 0, none⟩), rv (S : Int) (n : Int), .int .i64 (t : Int), .int .i64 (q' : Int)] wr.drew fun e w2 => ∃ a c, e = .returned (.tuple #[.slice a q' c, .int .i64 0]) ∧ w2.cell? ⟨g1, jj * 2, none⟩ = some (.int .i64 (S : Int)) ∧ w2.cell? ⟨g1, jj * 2 + 1, none⟩ = some (.int .i64 (n : Int)) ∧ w2.cell? ⟨g2, jj, none⟩ = some (.slice xa n xc) ∧ Hid (Bytes w2 a ((l.drop t).take q') ∧ (a = none → c = 0) ∧ Below wr.heap.size wr w2)) := (by
                  refine hrd.mono ?_
                  rintro e w2 ⟨a2, c2, rfl, h6, h7, h8⟩
                  obtain ⟨m0, m1, m2⟩ := HCL.out w2 (hTd.below h8)
                  exact ⟨a2, c2, rfl, m0, m1, m2, h6, h7, (Below.refl _ wr).drew.trans h8⟩)
                have HY : Hid (Own wr wo.heap.size (.slice ya (l.take t).length yc) (l.take t) ∧ Below wo.heap.size wo wr ∧ l.take t ++ (l.drop t).take q' = l.take (t + P) ∧ ((l.drop t).take q').length = q' ∧ (l.take t).length ≤ 15120 ∧ q' ≤ 15120) := ⟨hown, hbw, hnx, hXl, by rw [List.length_take, ← HN.out]; omega, by omega⟩
                have hsum : t + P ≤ 9223372036854775807 := by omega
                have hwa : IntKind.i64.wrap ((t : Int) + (P : Int)) = (t : Int) + (P : Int) := by rw [IntKind.wrap_i64]; omega
                have hwb : IntKind.i64.wrap ((n : Int) - (t : Int)) = (n : Int) - (t : Int) := by rw [IntKind.wrap_i64]; omega
                obtain ⟨tl, htl⟩ : ∃ tl, tl = (l.take t).length := ⟨_, rfl⟩
                have HTL : Hid (tl = (l.take t).length) := htl
                rw [← htl] at HY ⊢
                clear hown hbw hTw hTd hrd hXl hnx hq' HRB htl
                go_wp2
                go_region_held3 (fun w' => w'.cell? ⟨g1, jj * 2, none⟩ = some (.int .i64 (S : Int)) ∧ w'.cell? ⟨g1, jj * 2 + 1, none⟩ = some (.int .i64 (n : Int)) ∧ w'.cell? ⟨g2, jj, none⟩ = some (.slice xa n xc)) (go_keep)
                  (first
                    | (go_at_call 15; (with_reducible refine Calls.mono HX.out ?_); rintro e w2' ⟨a2, c2, rfl, m0, m1, m2, HB2⟩))
                clear d0 d1 d2 m0 m1 m2 HX hmin hwb
                go_wp2_with (at_builtin; refine wpList_append_bytes rfl (.tmp 176) (.tmp 177) rfl wo.heap.size _ (l.take t) rfl (keeps_below HB2.out.2.2 _ _ _ _ _ _ HY.out.1) a2 ((l.drop t).take q') c2 (by rw [HY.out.2.2.2.1]; rfl) HB2.out.1 HB2.out.2.1 (by rw [HY.out.2.2.2.1, ← HTL.out]; have := HY.out.2.2.2.2.1; have := HY.out.2.2.2.2.2; omega) (by have := HY.out.2.1.size; have := HB2.out.2.2.size; omega) ?_; intro v3 w3 ho3 hg3)
                go_roundw
                case rel =>
                  refine ⟨t + P, by go_num, .inr (by omega), hsum, by rw [HY.out.2.2.1] at ho3; exact ho3, ?_⟩
                  exact (HY.out.2.1.trans (HB2.out.2.2.mono HY.out.2.1.size)).grown hg3 (by have := HY.out.2.1.size; have := HB2.out.2.2.size; omega) (fun jx hjx => (owns_lt HY.out.1 jx hjx).1)
                case measure => simp [intOf]; omega
              · have htI : ¬ (t : Int) < (n : Int) := by omega
                rw [List.take_of_length_le (by have := HN.out; omega)] at hown
                obtain ⟨ya, yc, rfl⟩ : ∃ a c, u20 = .slice a l.length c := Al.own_slice hown
                have hyb : Bytes wr ya l := by
                  obtain ⟨a5, c5, e5, h5, _⟩ := hown.open
                  simp only [Value.slice.injEq] at e5
                  obtain ⟨rfl, -, rfl⟩ := e5
                  exact h5
                have hTd := hTw.below ((Below.refl _ wr).drew)
                have hrd := HRB.out wr.drew 0 n hTd (by omega)
                rw [List.drop_zero, List.take_of_length_le (by have := HN.out; omega)] at hrd
                have HX : Hid (Calls Try.prog 15 #[.pointer (some ⟨b, 0, none⟩), rv (S : Int) (n : Int), .int .i64 0, .int .i64 (n : Int)] wr.drew fun e w2 => ∃ a' c', e = .returned (.tuple #[.slice a' n c', .int .i64 0]) ∧ w2.cell? ⟨g1, jj * 2, none⟩ = some (.int .i64 (S : Int)) ∧ w2.cell? ⟨g1, jj * 2 + 1, none⟩ = some (.int .i64 (n : Int)) ∧ w2.cell? ⟨g2, jj, none⟩ = some (.slice xa n xc) ∧ Hid (Bytes w2 a' l ∧ Bytes w2 ya l ∧ Bytes w2 xa l ∧ TBk w b c d s s2 M2 (pre u (60 - u)) rs (.slice (some ⟨g1, 0, none⟩) dvl vc) dvs (.slice (some ⟨g2, 0, none⟩) dvl wc) w2)) := (by
                  refine hrd.mono ?_
                  rintro e w2 ⟨a2, c2, rfl, h6, h7, h8⟩
                  have hT2 := hTd.below h8
                  obtain ⟨m0, m1, m2⟩ := HCL.out w2 hT2
                  exact ⟨a2, c2, rfl, m0, m1, m2, h6, hyb.below ((Below.refl _ wr).drew.trans h8) (Nat.le_refl _), HT.out.2.below hT2.old (Nat.le_refl _), hT2⟩)
                rw [← HN.out]
                clear hown hbw hTw hTd hrd hyb HRB HRC ht0 htm
                go_wp2
                go_region_held3 (fun w' => w'.cell? ⟨g1, jj * 2, none⟩ = some (.int .i64 (S : Int)) ∧ w'.cell? ⟨g1, jj * 2 + 1, none⟩ = some (.int .i64 (n : Int)) ∧ w'.cell? ⟨g2, jj, none⟩ = some (.slice xa n xc)) (go_keep)
                  (first
                    | (go_at_call 15; (with_reducible refine Calls.mono HX.out ?_); rintro e w2' ⟨a2, c2, rfl, m0, m1, m2, HB2⟩))
                clear d0 d1 d2 HX m0 m1
                obtain ⟨X, hX⟩ : ∃ X : ByteArray, X = ⟨l.toArray⟩ := ⟨_, rfl⟩
                have q1 : ∀ m', (convert 38 9 (.slice a2 n c2)).run Try.prog (w2'.drewN m') = .ok (.string X) (w2'.drewN m') := fun m' => by
                  rw [hX, HN.out]; exact convert_bytes (w2'.drewN m') a2 c2 l HB2.out.1
                have q2 : ∀ m', (convert 38 9 (.slice ya n yc)).run Try.prog (w2'.drewN m') = .ok (.string X) (w2'.drewN m') := fun m' => by
                  rw [hX, HN.out]; exact convert_bytes (w2'.drewN m') ya yc l HB2.out.2.1
                have q3 : ∀ m', (convert 38 9 (.slice xa n xc)).run Try.prog (w2'.drewN m') = .ok (.string X) (w2'.drewN m') := fun m' => by
                  rw [hX, HN.out]; exact convert_bytes (w2'.drewN m') xa xc l HB2.out.2.2.1
                have hXX : (X.toList == X.toList) = true := by simp
                clear hX
                go_wp2
                go_quiet (fail)
                go_wp2
                go_roundw
                case rel => exact ⟨jj + 1, by omega, by go_num, HB2.out.2.2.2.below ⟨rfl, rfl, rfl, Nat.le_refl _, fun _ _ => rfl⟩⟩
                case measure => simp [intOf]; omega
          · obtain rfl : jj = dvl := by omega
            have hji : ¬ (jj : Int) < (jj : Int) := by omega
            have haw := HAW.out wo hT.old
            clear hT HP HRL
            go_wp2_with (go_at_call 8; refine Calls.mono haw ?_; rintro e w9 ⟨rfl, q9⟩)
            go_ret
            exact ⟨rfl, q9⟩
end Go.Proofs.Ytpmjkgpmidejoaa
