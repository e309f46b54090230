/-
  BlobRoom walked: the law itself.
-/
import Derived.Test.YtpmjkgpmidejoaaLawRoom
import Derived.Lib.SlBytesConst
namespace Go.Proofs.Ytpmjkgpmidejoaa
open Go.RowKit

theorem bytes_row2 {w : World} {g : Nat} {l : List UInt8} {fz : Nat × Nat} (h : w.heap[g]? = some (.cells (bcs l).toArray 5 fz)) : Bytes w (some ⟨g, 0, none⟩) l := by
  by_cases h0 : l = []
  · exact .inl h0
  · refine .inr ⟨g, 0, rfl, (Array.getElem?_eq_some_iff.1 h).1, fun j hj => ?_⟩
    rw [Nat.zero_add]
    simp only [World.cell?, h]
    simpa using bcs_get hj
/-- A Ref in a box, and one more in the list. -/
theorem ri_more {w : World} {b d s fr : Nat} {M : D} {L : List Bool} {rs : List (Nat × Nat)} {v : Value} {w1 : World} (h : RI w b d s fr M L rs v w1) (S Z : Nat) (hn : rs.length ≤ 1000) :
    ∃ a' c' w', (∀ ty, (Builtin.append_ #[22, 22] ty #[v, .slice (some ⟨w1.heap.size + 1, 0, none⟩) 1 1]).run Try.prog ((w1.alloc (.cells #[.int .i64 (S : Int), .int .i64 (Z : Int)] 40)).alloc (.cells #[.int .i64 (S : Int), .int .i64 (Z : Int)] 40)) = .ok (.slice a' (rs.length + 1) c') w') ∧ RI w b d s fr M L (rs ++ [(S, Z)]) (.slice a' (rs.length + 1) c') w' := by
  have hA : Below w1.heap.size w1 (w1.alloc (.cells #[.int .i64 (S : Int), .int .i64 (Z : Int)] 40)) := (Below.refl _ w1).alloc (Nat.le_refl _) _
  obtain ⟨v', w', h1, ⟨a', c', rfl⟩, h2⟩ := (h.below hA).snoc S Z hn
  rw [World.size_alloc] at h1
  exact ⟨a', c', w', h1, h2⟩

set_option maxHeartbeats 4000000 in
set_option maxRecDepth 100000 in
theorem room_walk (w : World) (a : Option Addr) (Ls : List (List UInt8)) (cap : Nat) (hL : Rbs w a Ls) (hLl : Ls.length ≤ 9223372036854775807) :
    Calls Try.prog 7 #[.slice a Ls.length cap] w fun e w' => e = .returned (.bool true) ∧ Below w.heap.size w w' := by
  obtain ⟨i0, hi, hz0, hz1, hz2⟩ := info_parts info5
  obtain ⟨m, hm⟩ : ∃ m, m = Ls.length := ⟨_, rfl⟩
  have HM : Hid (m = Ls.length ∧ Rbs w a Ls) := ⟨hm, hL⟩
  rw [← hm] at hLl ⊢
  clear hm hL
  obtain ⟨M0, hM0⟩ : ∃ M0, M0 = D.new 40 blank := ⟨_, rfl⟩
  have HC0 : Hid (Calm M0 ∧ M0.S.length = 40) := ⟨by rw [hM0]; exact new_calm 40, by rw [hM0]; simp [D.new]⟩
  have hc0L : M0.L.length = 40 := by rw [hM0]; simp [D.new]
  have hnew := dl_new w w K0 (fun k hk => hk.elim) (Below.refl _ _) 40 (by omega) (by omega)
  rw [← hM0] at hnew
  have HO : Hid (∀ w1 d, DL w K0 d M0 w1 → Calls Try.prog 11 #[.pointer (some ⟨d, 0, none⟩), .int .i64 4, .int .i64 30, .slice none 0 0] w1 fun e w' => ∃ b s, e = .returned (.tuple #[.pointer (some ⟨b, 0, none⟩), .int .i64 0]) ∧ Hid (RI w b d s 4 M0 (pre 0 30) [] (.slice none 0 0) w')) := (by
    intro w1 d hd
    refine (bl_open w w1 K0 d 4 30 M0 hd (by rw [hc0L]; omega) none [] 0 (refs_nil _) (by simp) (pre 0 30) (by rw [← pre_new]; rfl)).mono ?_
    rintro e w' ⟨b, s, rfl, q1, _⟩
    exact ⟨b, s, rfl, ⟨q1.less fun k h => by simp [Value.ownBlock] at h, World.ownsRow_nil _ _ _ _⟩⟩)
  have HAW : Hid (∀ w8, Below w.heap.size w w8 → Calls Try.prog 8 #[] w8 fun e w9 => e = .returned (.bool true) ∧ Below w.heap.size w w9) := fun w8 q => (awake_any w8).mono fun e w9 h3 => ⟨h3.1, q.trans (h3.2.mono q.size)⟩
  clear hM0 hc0L
  by_cases h20 : 20 < m
  · have t1 : (20 : Int) < (m : Int) := by omega
    clear h20 HM
    go_enter Try.func7, Try.ntmps7
    go_wp2_with (first
      | (go_at_call 9; refine Calls.mono hnew ?_; rintro e w1 ⟨d, rfl, q1, q2⟩; have ho := HO.out w1 d q1; clear q1 q2)
      | (go_at_call 11; refine Calls.mono ho ?_; rintro e w2 ⟨b, s, rfl, HB⟩; have haw := HAW.out w2 HB.out.bl.old)
      | (go_at_call 8; refine Calls.mono haw ?_; rintro e w9 ⟨rfl, q9⟩))
    go_ret
    exact ⟨rfl, q9⟩
  · have t1 : ¬ (20 : Int) < (m : Int) := by omega
    have hm20 : m ≤ 20 := by omega
    clear h20
    go_enter Try.func7, Try.ntmps7
    go_wp2_with (first
      | (go_at_call 9; refine Calls.mono hnew ?_; rintro e w1 ⟨d, rfl, q1, q2⟩; have ho := HO.out w1 d q1; clear q1 q2)
      | (go_at_call 11; refine Calls.mono ho ?_; rintro e w2 ⟨b, s, rfl, HB⟩))
    clear ho hnew HO
    go_loopw [7, 8, 9] (fun rvv us i wr => ∃ (k u : Nat) (M : D) (rs : List (Nat × Nat)), k ≤ m ∧ u ≤ 30 ∧ us = .int .i64 u ∧ i = .int .i64 k ∧ Calm M ∧ M.S.length = 40 ∧ RI w b d s 4 M (pre u (30 - u)) rs rvv wr ∧ chain 0 rs u ∧ rs.length ≤ k) (fun _ _ i _ => m - (intOf i).toNat)
    case atStart => exact ⟨0, 0, M0, [], Nat.zero_le _, by omega, rfl, rfl, HC0.out.1, HC0.out.2, HB.out, rfl, Nat.le_refl _⟩
    case round =>
      obtain ⟨k, u, M, rs, hk, hu, rfl, rfl, hM, hML, hRI, hch, hrk⟩ := hrel
      clear HB HC0
      by_cases hlt : k < m
      · have hki : (k : Int) < (m : Int) := by omega
        obtain ⟨lb, off, ad, lc, rfl, hcell, hby, hlc, hno, hlm⟩ := HM.out.2.at (j := k) (by have := HM.out.1; omega)
        obtain ⟨l, hl⟩ : ∃ l, l = Ls[k]'(by have := HM.out.1; omega) := ⟨_, rfl⟩
        rw [← hl] at hcell hby hlc hlm
        obtain ⟨va, vc, rfl⟩ : ∃ a c, u7 = .slice a rs.length c := Al.own_slice hRI.row
        have c1 := hcell wr hRI.bl.old
        have hwr := ri_write hRI hM (by omega) (by omega) ad l lc (hby.below hRI.bl.old (Nat.le_refl _)) (fun hne ad' e => hby.lt hne ad' e) hlc hlm
        have hsec := fun w => sectors_any (l.length : Int) w (by omega)
        rw [secI_nat] at hsec
        obtain ⟨n, hn⟩ : ∃ n, n = l.length := ⟨_, rfl⟩
        rw [← hn] at hwr hsec c1 hlm
        obtain ⟨K, hK⟩ : ∃ K, K = nsec n := ⟨_, rfl⟩
        rw [← hK] at hwr hsec
        have hKn : K ≤ 100000000000000000 := by rw [hK]; unfold nsec; omega
        have hK0 : n = 0 → K = 0 := by rintro rfl; rw [hK]; rfl
        have hK1 : n ≠ 0 → 1 ≤ K := fun h => by rw [hK]; exact nsec_pos h
        by_cases hle : u + K ≤ 30
        · have HW : Hid (Calls Try.prog 13 #[.pointer (some ⟨b, 0, none⟩), .slice ad n lc] wr fun e w1 => ∃ S : Nat, e = .returned (.tuple #[rv (S : Int) (n : Int), .int .i64 0]) ∧ Hid (∃ M', Calm M' ∧ M'.S.length = 40 ∧ RI w b d s 4 M' (pre (u + K) (30 - (u + K))) rs (.slice va rs.length vc) w1 ∧ chain 0 (rs ++ [(S, n)]) (u + K))) := (by
            refine hwr.mono ?_
            rintro e w1 (⟨h1, rfl, h2⟩ | ⟨h1, h2, rfl, h3⟩ | ⟨h1, h2, _, _⟩)
            · have e0 := hK0 h1
              refine ⟨0, by rw [h1]; rfl, M, hM, hML, by rw [e0]; exact h2, ?_⟩
              rw [h1, e0]
              exact chain_none rs 0 u hch
            · refine ⟨u, rfl, putD M (4 + u) l, putD_calm hM _ l, by rw [putD_length, hML], by rw [show 30 - (u + K) = 30 - u - K from by omega]; exact h3, ?_⟩
              rw [hK]
              exact chain_some h1 rs 0 u hch
            · omega)
          have hleI : (u : Int) + (K : Int) ≤ 30 := by omega
          have HH : Hid (u + K ≤ 30 ∧ rs.length ≤ k) := ⟨hle, hrk⟩
          have hKb : K ≤ 30 := by omega
          clear hwr hRI hM hML hch hrk hl hcell hby hlc hno hle hn hK hKn hK0 hK1 HM hlm
          go_wp2_with (first
            | (go_at_call 28; refine Calls.mono (hsec _) ?_; rintro e w1' ⟨rfl, rfl⟩)
            | (go_at_call 13; refine Calls.mono HW.out ?_; rintro e w3 ⟨S, rfl, HR⟩; obtain ⟨a', c', w4, hr, HR2⟩ : ∃ a' c' w', (∀ ty, (Builtin.append_ #[22, 22] ty #[.slice va rs.length vc, .slice (some ⟨w3.heap.size + 1, 0, none⟩) 1 1]).run Try.prog ((w3.alloc (.cells #[.int .i64 (S : Int), .int .i64 (n : Int)] 40)).alloc (.cells #[.int .i64 (S : Int), .int .i64 (n : Int)] 40)) = .ok (.slice a' (rs.length + 1) c') w') ∧ Hid (∃ M', Calm M' ∧ M'.S.length = 40 ∧ RI w b d s 4 M' (pre (u + K) (30 - (u + K))) (rs ++ [(S, n)]) (.slice a' (rs.length + 1) c') w' ∧ chain 0 (rs ++ [(S, n)]) (u + K)) := (by obtain ⟨M', g1, g2, g3, g4⟩ := HR.out; obtain ⟨a', c', w', g5, g6⟩ := ri_more g3 S n (by have := HH.out.2; omega); exact ⟨a', c', w', g5, M', g1, g2, g6, g4⟩))
            | (at_builtin; refine wpList_append_run rfl (.tmp 85) (.tmp 87) 22 22 rfl _ _ rfl rfl _ _ hr ?_))
          obtain ⟨M', g1, g2, g3, g4⟩ := HR2.out
          go_roundw
          case rel => exact ⟨k + 1, u + K, M', rs ++ [(S, n)], by omega, HH.out.1, by go_num, by go_num, g1, g2, g3, g4, by have := HH.out.2; simp; omega⟩
          case measure => simp [intOf]; omega
        · have HW : Hid (Calls Try.prog 13 #[.pointer (some ⟨b, 0, none⟩), .slice ad n lc] wr fun e w1 => e = .returned (.tuple #[rv 0 0, .int .i64 60]) ∧ Hid (Calm M ∧ M.S.length = 40 ∧ RI w b d s 4 M (pre u (30 - u)) rs (.slice va rs.length vc) w1 ∧ chain 0 rs u ∧ rs.length ≤ k)) := (by
            refine hwr.mono ?_
            rintro e w1 (⟨h1, rfl, h2⟩ | ⟨h1, h2, rfl, h3⟩ | ⟨h1, h2, rfl, h3⟩)
            · have e0 := hK0 h1; omega
            · omega
            · exact ⟨rfl, hM, hML, h3, hch, hrk⟩)
          have hleI : ¬ (u : Int) + (K : Int) ≤ 30 := by omega
          clear hwr hRI hM hML hch hrk hl hcell hby hlc hno hle hn hK hK0 hK1 HM
          go_wp2_with (first
            | (go_at_call 28; refine Calls.mono (hsec _) ?_; rintro e w1' ⟨rfl, rfl⟩)
            | (go_at_call 13; refine Calls.mono HW.out ?_; rintro e w3 ⟨rfl, HR⟩))
          go_roundw
          case rel =>
            obtain ⟨g1, g2, g3, g4, g5⟩ := HR.out
            exact ⟨k + 1, u, M, rs, by omega, hu, rfl, by go_num, g1, g2, g3.below ((Below.refl _ w3).alloc (Nat.le_refl _) _), g4, by omega⟩
          case measure => simp [intOf]; omega
      · obtain rfl : k = m := by omega
        have hki : ¬ (k : Int) < (k : Int) := by omega
        have hfr := bl_free w wr _ b d s 4 M (pre u (30 - u)) hRI.bl
        rw [pre_count] at hfr
        have HF : Hid (Calls Try.prog 25 #[.pointer (some ⟨b, 0, none⟩)] wr fun e w' => e = .returned (.int .i64 ((30 - u : Nat) : Int)) ∧ Hid (RI w b d s 4 M (pre u (30 - u)) rs u7 w')) := hfr.mono fun e w' q => ⟨q.1, hRI.below q.2.2⟩
        have h30 : (30 : Int) - (u : Int) = ((30 - u : Nat) : Int) := by omega
        obtain ⟨va, vc, rfl⟩ : ∃ a c, u7 = .slice a rs.length c := Al.own_slice hRI.row
        have HP : Hid (Calm M ∧ M.S.length = 40 ∧ chain 0 rs u ∧ rs.length ≤ 20) := ⟨hM, hML, hch, by omega⟩
        obtain ⟨q, hq⟩ : ∃ q, q = 30 - u := ⟨_, rfl⟩
        obtain ⟨rl, hrl⟩ : ∃ rl, rl = rs.length := ⟨_, rfl⟩
        have HQ : Hid (q = 30 - u ∧ rl = rs.length) := ⟨hq, hrl⟩
        rw [← hq] at HF h30
        rw [← hrl] at HF ⊢
        clear hRI hM hML hch hrk hfr HM hq hrl
        go_wp2_with (go_at_call 25; refine Calls.mono HF.out ?_; rintro e w3 ⟨rfl, HR⟩)
        clear HF h30
        have hrl20 : rl ≤ 20 := by have := HP.out.2.2.2; have := HQ.out.2; omega
        go_loopw [13] (fun i wr => ∃ j x : Nat, j ≤ rl ∧ x ≤ u ∧ i = .int .i64 j ∧ chain x (rs.drop j) u ∧ RI w b d s 4 M (mid x (u - x) q) rs (.slice va rl vc) wr) (fun i _ => rl - (intOf i).toNat)
        case atStart => exact ⟨0, 0, Nat.zero_le _, Nat.zero_le _, rfl, HP.out.2.2.1, by rw [Nat.sub_zero, mid_pre, HQ.out.1]; have := HR.out; rwa [HQ.out.1] at this⟩
        case round =>
          obtain ⟨j, x, hj, hx, rfl, hcj, hRI⟩ := hrel
          clear HR
          by_cases hltj : j < rl
          · have hjl : j < rs.length := by have := HQ.out.2; omega
            have hji : (j : Int) < (rl : Int) := by omega
            obtain ⟨g, gc, hgv, hg1, hg2, c0, c1⟩ := hRI.cell hjl
            rw [List.drop_eq_getElem_cons hjl] at hcj
            simp only [Value.slice.injEq] at hgv
            obtain ⟨rfl, hgl, rfl⟩ := hgv
            have HCL : Hid (∀ L' w', RI w b d s 4 M L' rs (.slice (some ⟨g, 0, none⟩) rl vc) w' → w'.cell? ⟨g, j * 2, none⟩ = some (.int .i64 (rs[j].1 : Int)) ∧ w'.cell? ⟨g, j * 2 + 1, none⟩ = some (.int .i64 (rs[j].2 : Int))) := (by
              intro L' w' h2
              obtain ⟨g', gc', e', _, _, k0, k1⟩ := h2.cell hjl
              simp only [Value.slice.injEq, Option.some.injEq, Addr.mk.injEq, and_true] at e'
              obtain ⟨rfl, _⟩ := e'
              exact ⟨k0, k1⟩)
            rcases hcj with ⟨z1, z2, hcj⟩ | ⟨z1, z2, hcj⟩
            · have hdr := bl_drop w wr _ b d s 4 M (mid x (u - x) q) hRI.bl 0 0 (by omega) (by omega)
              rw [(none_give _).1, (none_give _).2, if_pos rfl] at hdr
              rw [z2] at c0
              rw [z1] at c1
              have HD : Hid (Calls Try.prog 17 #[.pointer (some ⟨b, 0, none⟩), rv 0 0] wr fun e w4 => e = .returned (.int .i64 0) ∧ w4.cell? ⟨g, j * 2, none⟩ = some (.int .i64 0) ∧ w4.cell? ⟨g, j * 2 + 1, none⟩ = some (.int .i64 0) ∧ Hid (RI w b d s 4 M (mid x (u - x) q) rs (.slice (some ⟨g, 0, none⟩) rl vc) w4)) := (by
                refine hdr.mono ?_
                rintro e w4 ⟨rfl, q1, q2⟩
                have h2 := hRI.step q1 q2
                obtain ⟨k0, k1⟩ := HCL.out _ w4 h2
                rw [z2] at k0
                rw [z1] at k1
                exact ⟨rfl, k0, k1, h2⟩)
              have HCJ : Hid (chain x (rs.drop (j + 1)) u ∧ x ≤ u) := ⟨hcj, hx⟩
              clear hdr hRI hcj HCL z1 z2 hjl hgl
              go_wp2_with (go_at_call 17; refine Calls.mono HD.out ?_; rintro e w4 ⟨rfl, k0, k1, HR⟩)
              go_roundw
              case rel => exact ⟨j + 1, x, by omega, HCJ.out.2, by go_num, HCJ.out.1, HR.out⟩
              case measure => simp [intOf]; omega
            · obtain ⟨Z, hZ⟩ : ∃ Z, Z = rs[j].2 := ⟨_, rfl⟩
              rw [← hZ] at z1 hcj c1 HCL
              rw [z2] at c0 HCL
              have hle := chain_le _ _ _ hcj
              obtain ⟨v1, v2, v3⟩ := mid_give (x := x) (y := u - x) (z := q) z1 (by omega)
              have hK1 := nsec_pos z1
              have hZb : Z ≤ 252 * 30 := by unfold nsec at hle; omega
              have hdr := bl_drop w wr _ b d s 4 M (mid x (u - x) q) hRI.bl (x : Int) (Z : Int) (by omega) (by omega)
              rw [v1, v2, if_pos rfl] at hdr
              have hL2 : giveL (mid (x + nsec Z) (u - x - nsec Z) q) (x : Int) (Z : Int) = mid (x + nsec Z) (u - x - nsec Z) q := by
                have h3 := v3
                unfold giveR at h3
                rw [Bool.or_eq_false_iff] at h3
                rw [giveL, h3.2]
                simp
              obtain ⟨y, hy⟩ : ∃ y, y = x + nsec Z := ⟨_, rfl⟩
              rw [← hy] at hdr v3 hL2 hcj hle
              rw [show u - x - nsec Z = u - y from by omega] at hdr v3 hL2
              have HD : Hid (Calls Try.prog 17 #[.pointer (some ⟨b, 0, none⟩), rv (x : Int) (Z : Int)] wr fun e w4 => e = .returned (.int .i64 0) ∧ w4.cell? ⟨g, j * 2, none⟩ = some (.int .i64 (x : Int)) ∧ w4.cell? ⟨g, j * 2 + 1, none⟩ = some (.int .i64 (Z : Int)) ∧
                  Hid (Calls Try.prog 17 #[.pointer (some ⟨b, 0, none⟩), rv (x : Int) (Z : Int)] w4 fun e w5 => e = .returned (.int .i64 1) ∧ Hid (RI w b d s 4 M (mid y (u - y) q) rs (.slice (some ⟨g, 0, none⟩) rl vc) w5))) := (by
                refine hdr.mono ?_
                rintro e w4 ⟨rfl, q1, q2⟩
                have h2 := hRI.step q1 q2
                obtain ⟨k0, k1⟩ := HCL.out _ w4 h2
                refine ⟨rfl, k0, k1, ?_⟩
                have hd2 := bl_drop w w4 _ b d s 4 M (mid y (u - y) q) h2.bl (x : Int) (Z : Int) (by omega) (by omega)
                rw [v3, hL2, if_neg (by simp)] at hd2
                refine hd2.mono ?_
                rintro e w5 ⟨rfl, q3, q4⟩
                exact ⟨rfl, h2.step q3 q4⟩)
              have HCJ : Hid (chain y (rs.drop (j + 1)) u ∧ y ≤ u) := ⟨hcj, hle⟩
              have hZ0 : (0 : Int) < (Z : Int) := by omega
              clear hdr hRI hcj HCL z1 z2 hjl hgl v1 v2 v3 hL2 hK1 hy hle hZ hZb
              go_wp2_with (first
                | (go_at_call 17; refine Calls.mono HD.out ?_; rintro e w4 ⟨rfl, k0, k1, HD2⟩)
                | (go_at_call 17; refine Calls.mono HD2.out ?_; rintro e w5 ⟨rfl, HR⟩))
              go_roundw
              case rel => exact ⟨j + 1, y, by omega, HCJ.out.2, by go_num, HCJ.out.1, HR.out⟩
              case measure => simp [intOf]; omega
          · obtain rfl : j = rl := by omega
            have hji : ¬ (j : Int) < (j : Int) := by omega
            rw [HQ.out.2, List.drop_length] at hcj
            obtain rfl : x = u := hcj
            rw [Nat.sub_self, mid_end, show x + q = 30 from by have := HQ.out.1; omega] at hRI
            have hB : BL w K0 b d s 4 M (pre 0 30) wr := hRI.bl.less fun k h => h.elim
            have hMs := HP.out.2.1
            have hMc := HP.out.1
            have hm2 : i0.bytes * 7560 ≤ 281474976710656 := by rw [hz2]; omega
            obtain ⟨M2, hM2⟩ : ∃ M2, M2 = putD M 4 (List.replicate 7560 0) := ⟨_, rfl⟩
            have hc2 : Calm M2 ∧ M2.S.length = 40 := ⟨by rw [hM2]; exact putD_calm hMc 4 _, by rw [hM2, putD_length, hMs]⟩
            have HWR : Hid (∀ w3, w3.ownsRow wr.heap.size 5 1 (.slice (some ⟨wr.heap.size, 0, none⟩) 7560 7560) 7560 (bcs (List.replicate 7560 0)) → wr.grownBy w3 none → Calls Try.prog 13 #[.pointer (some ⟨b, 0, none⟩), .slice (some ⟨wr.heap.size, 0, none⟩) 7560 7560] w3 fun e w' => e = .returned (.tuple #[rv 0 7560, .int .i64 0]) ∧ Hid (BL w K0 b d s 4 M2 (pre 30 0) w')) := (by
              intro w3 ho hg
              have hb3 : Below wr.heap.size wr w3 := (Below.refl _ _).grown hg (Nat.le_refl _) (by simp)
              have hlt := (owns_lt ho wr.heap.size rfl).2
              have h1 := hB.more hb3
              have hw := bl_write w w3 (More K0 wr w3) b d s 4 M (pre 0 30) h1 (some ⟨wr.heap.size, 0, none⟩) (List.replicate 7560 0) 7560 (own_bytes ho) (fun _ ad e => by simp only [Option.some.injEq] at e; subst e; exact .inr (.inr ⟨Nat.le_refl _, hlt⟩)) (by rw [List.length_replicate]; omega) (by rw [List.length_replicate]; omega) (by rw [hMc.c]; simp) (by omega)
              have e := wr_pre (u := 0) (v := 30) (fr := 4) (List.replicate 7560 0) hMc (by rw [hMs]; omega)
              rw [List.length_replicate, if_neg (by omega), show nsec 7560 = 30 from by decide, if_pos (by omega)] at e
              rw [e, List.length_replicate] at hw
              refine hw.mono ?_
              rintro e2 w' ⟨rfl, q1, _⟩
              refine ⟨rfl, ?_⟩
              rw [hM2]
              exact q1.less fun k h => h.elim)
            have HX : Hid (∀ w4, BL w K0 b d s 4 M2 (pre 30 0) w4 → Calls Try.prog 13 #[.pointer (some ⟨b, 0, none⟩), .slice (some ⟨w4.heap.size + 1, 0, none⟩) 1 1] ((w4.alloc (.cells #[.int .i64 0, .int .i64 7560] 40)).alloc (.cells #[.int .u8 120] 5 (1, 2))) fun e w' => e = .returned (.tuple #[rv 0 0, .int .i64 60]) ∧ Hid (BL w K0 b d s 4 M2 (pre 30 0) w' ∧ w'.heap[w4.heap.size]? = some (.cells #[.int .i64 0, .int .i64 7560] 40 (0, 0)))) := (by
              intro w4 hb4
              have hA : Below w4.heap.size w4 ((w4.alloc (.cells #[.int .i64 0, .int .i64 7560] 40)).alloc (.cells #[.int .u8 120] 5 (1, 2))) := ((Below.refl _ w4).alloc (Nat.le_refl _) _).alloc (by simp) _
              have h1 := hb4.more hA
              have hrow : ((w4.alloc (.cells #[.int .i64 0, .int .i64 7560] 40)).alloc (.cells #[.int .u8 120] 5 (1, 2))).heap[w4.heap.size + 1]? = some (.cells (bcs [120]).toArray 5 (1, 2)) := by
                have := heap_alloc_new (w4.alloc (.cells #[.int .i64 0, .int .i64 7560] 40)) (.cells #[.int .u8 120] 5 (1, 2))
                rw [World.size_alloc] at this
                exact this
              have hw := bl_write w _ _ b d s 4 M2 (pre 30 0) h1 (some ⟨w4.heap.size + 1, 0, none⟩) [120] 1 (bytes_row2 hrow) (fun _ ad e => by simp only [Option.some.injEq] at e; subst e; exact .inr (.inr ⟨by show w4.heap.size ≤ w4.heap.size + 1; omega, by simp⟩)) (by simp) (by simp) (by rw [hc2.1.c]; simp) (by omega)
              have e := wr_pre (u := 30) (v := 0) (fr := 4) [120] hc2.1 (by rw [hc2.2]; omega)
              rw [if_neg (by simp), show nsec ([120] : List UInt8).length = 1 from by decide, if_neg (by omega)] at e
              rw [e] at hw
              refine hw.mono ?_
              rintro e2 w' ⟨rfl, q1, q2⟩
              refine ⟨rfl, q1.less fun k h => h.elim, (q2 w4.heap.size (.inr ⟨Nat.le_refl _, by simp; omega⟩)).trans ?_⟩
              exact (Below.heap_alloc _ _ _ (by simp)).trans (heap_alloc_new w4 _))
            have HFR : Hid (∀ w4 w5, BL w K0 b d s 4 M2 (pre 30 0) w5 → w5.heap[w4]? = some (.cells #[.int .i64 0, .int .i64 7560] 40 (0, 0)) → Calls Try.prog 25 #[.pointer (some ⟨b, 0, none⟩)] (w5.alloc (.cells #[.int .i64 0, .int .i64 0] 40)) fun e w' => e = .returned (.int .i64 0) ∧ Below w.heap.size w w' ∧ w'.cell? ⟨w4, 0, none⟩ = some (.int .i64 0)) := (by
              intro w4 w5 hb5 hbx
              have hA : Below w5.heap.size w5 (w5.alloc (.cells #[.int .i64 0, .int .i64 0] 40)) := (Below.refl _ w5).alloc (Nat.le_refl _) _
              have := bl_free w _ K0 b d s 4 _ _ (hb5.below hA)
              rw [pre_count] at this
              refine this.mono ?_
              rintro e w' ⟨rfl, q1, q2⟩
              have hlt := (Array.getElem?_eq_some_iff.1 hbx).1
              exact ⟨rfl, q1.old, cell_blk (((q2.mono (by simp : w5.heap.size ≤ _)).block w4 hlt).trans ((hA.block w4 hlt).trans hbx)) 0⟩)
            have HCV : Hid (∀ w4 : World, (convert 38 38 (.slice (some ⟨w4.heap.size + 1, 0, none⟩) 1 1)).run Try.prog ((w4.alloc (.cells #[.int .i64 0, .int .i64 7560] 40)).alloc (.cells #[.int .u8 120] 5)) = .ok (.slice (some ⟨w4.heap.size + 1, 0, none⟩) 1 1) ((w4.alloc (.cells #[.int .i64 0, .int .i64 7560] 40)).alloc (.cells #[.int .u8 120] 5 (1, 2)))) := (by
              intro w4
              have := Lib.run_convert_bytes_const (P := Try.prog) (w4.alloc (.cells #[.int .i64 0, .int .i64 7560] 40)) 38 5 #[.int .u8 120] 1 1 Try.underlying38 Try.underlying5
              rw [World.size_alloc] at this
              exact this)
            clear hRI hB hMs hMc hM2 hc2 HP HQ
            go_wp2_with (first
              | (at_make; refine wpList_make_full _ rfl _ _ 38 rfl wr.heap.size 5 i0 (.int .u8 0) 1 Try.underlying38 hi hz0 hz1 _ _ _ _ 7560 rfl rfl (by first | rfl | omega) (by first | rfl | omega) hm2 (by unfold maxLen; omega) (Nat.le_refl _) ?_; intro w3' ho3 hg3; rw [made_bytes] at ho3; have hwr := HWR.out w3' ho3 hg3; clear ho3 hg3)
              | (go_at_call 13; (with_reducible refine Calls.mono hwr ?_); rintro e w4 ⟨rfl, HB4⟩; clear hwr; have hx := HX.out w4 HB4.out; have hcv := HCV.out w4)
              | (go_at_call 13; (with_reducible refine Calls.mono hx ?_);  rintro e w5 ⟨rfl, HB5⟩; have hfr := HFR.out w4.heap.size w5 HB5.out.1 HB5.out.2)
              | (go_at_call 25; refine Calls.mono hfr ?_; rintro e w6 ⟨rfl, q6, k6⟩; have haw := HAW.out w6 q6)
              | (go_at_call 8; refine Calls.mono haw ?_; rintro e w9 ⟨rfl, q9⟩))
            go_ret
            exact ⟨rfl, q9⟩
end Go.Proofs.Ytpmjkgpmidejoaa
