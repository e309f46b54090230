/-
  AllocPlays: the law's walk.
-/
import Derived.Test.YthbgbehmknnohaaRefU
namespace Go.Proofs.Ythbgbehmknnohaa
open Go.RowKit Go.Shelf

/-- The two spaces side by side. -/
structure PX (w : World) (b r g : Nat) (L1 L2 : List Bool) (W : World) : Prop where
  sp : Spc W b L1
  rs : RSp W r g L2
  old : Below w.heap.size w W
  hb : w.heap.size ≤ b
  hg : w.heap.size ≤ g
  hgl : g < W.heap.size
  hbg : b ≠ g
theorem PX.ne {w : World} {b r g : Nat} {L1 L2 : List Bool} {W : World} (h : PX w b r g L1 L2 W) : b ≠ r := by
  intro e
  obtain ⟨_, Wd, _, h1, _⟩ := h.sp
  obtain ⟨_, a, c, h2, _⟩ := h.rs
  rw [e, h2] at h1
  simp at h1
theorem PX.code {w : World} {b r g : Nat} {L1 L1' L2 : List Bool} {W W' : World} (h : PX w b r g L1 L2 W) (hs : Spc W' b L1') (hk : Kep (fun q => q ≠ b) W W') : PX w b r g L1' L2 W' := by
  have hb := h.hb
  refine ⟨hs, h.rs.kept (hk.keep r h.rs.lt h.ne.symm) (fun _ => hk.keep g h.hgl h.hbg.symm), h.old.trans ((hk.mono (K' := fun q => q < w.heap.size) fun q _ h3 => by omega).below h.old.size), hb, h.hg, Nat.lt_of_lt_of_le h.hgl hk.size, h.hbg⟩
theorem PX.ref {w : World} {b r g : Nat} {L1 L2 L2' : List Bool} {W W' : World} (h : PX w b r g L1 L2 W) (hs : RSp W' r g L2') (hk : Kep (fun q => q ≠ g) W W') : PX w b r g L1 L2' W' := by
  have hg := h.hg
  refine ⟨h.sp.kept (hk.keep b h.sp.lt h.hbg), hs, h.old.trans ((hk.mono (K' := fun q => q < w.heap.size) fun q _ h3 => by omega).below h.old.size), h.hb, hg, Nat.lt_of_lt_of_le h.hgl hk.size, h.hbg⟩
theorem PX.below {w : World} {b r g : Nat} {L1 L2 : List Bool} {W W' : World} (h : PX w b r g L1 L2 W) (hk : Below W.heap.size W W') : PX w b r g L1 L2 W' :=
  ⟨h.sp.below hk, h.rs.below hk, h.old.trans (hk.mono h.old.size), h.hb, h.hg, Nat.lt_of_lt_of_le h.hgl hk.size, h.hbg⟩
/-- The call of the script in its box. -/
def OBx (W : World) (X : Nat) (kd A K : Int) : Prop := W.heap[X]? = some (.cells #[.int .i64 kd, .int .i64 A, .int .i64 K] 32 (0, 0))
theorem OBx.at {W : World} {X : Nat} {kd A K : Int} (h : OBx W X kd A K) : W.cell? ⟨X, 0, none⟩ = some (.int .i64 kd) ∧ W.cell? ⟨X, 1, none⟩ = some (.int .i64 A) ∧ W.cell? ⟨X, 2, none⟩ = some (.int .i64 K) := ⟨cell_blk h 0, cell_blk h 1, cell_blk h 2⟩
theorem OBx.kept {W W' : World} {X q : Nat} {kd A K : Int} (h : OBx W X kd A K) (hk : Kep (fun p => p ≠ q) W W') (hq : X ≠ q) : OBx W' X kd A K := (hk.keep X (Array.getElem?_eq_some_iff.1 h).1 hq).trans h

set_option maxRecDepth 100000 in
set_option maxHeartbeats 8000000 in
theorem plays_walk (n : Int) (a1 : Option Addr) (c1 : Nat) (ops : List OpT) (w : World) (h1 : Ops w a1 ops) :
    Calls Try.prog 3 #[.int .i64 n, .slice a1 ops.length c1] w fun e w' => e = .returned (.bool true) ∧ Below w.heap.size w w' := by
  by_cases hb : n < 0 ∨ 4096 < n
  · have hnew := new_bad w n hb
    have hnew2 := refNew_bad w n hb
    clear hb h1
    go_enter Try.func3, Try.ntmps3
    go_wp2_with (first
      | (go_at_call 6; refine Calls.mono hnew ?_; rintro e w1 ⟨rfl, rfl⟩)
      | (go_at_call 7; refine Calls.mono hnew2 ?_; rintro e w1 ⟨rfl, rfl⟩)
      | (go_at_call 8; refine Calls.mono (awake_any _) ?_; rintro e w2 ⟨rfl, b2⟩))
    refine wp_loop_rounds 1 ?_
    rw [rounds_succ]
    by_cases t1 : (0 : Int) < (ops.length : Int)
    · go_wp2
      go_ret
      exact ⟨rfl, b2⟩
    · go_wp2
      go_ret
      exact ⟨rfl, b2⟩
  · obtain ⟨N, rfl⟩ : ∃ N : Nat, n = (N : Int) := ⟨n.toNat, by omega⟩
    have hnew := new_ok w N (by omega)
    have HI : Hid (Ops w a1 ops) := h1
    have hN4 : N ≤ 4096 := by omega
    clear hb h1
    go_enter Try.func3, Try.ntmps3
    go_wp2_with fail
    refine Calls.mono hnew ?_
    rintro e w1 ⟨rfl, q1, b1⟩
    have hnew2 := refNew_ok w1 N hN4
    clear hnew
    go_wp2_with fail
    refine Calls.mono hnew2 ?_
    rintro e w2 ⟨rfl, q2, b2⟩
    have hpx : PX w w.heap.size (w1.heap.size + 1) w1.heap.size (List.replicate N false) (List.replicate N false) w2 := by
      refine ⟨q1.below b2, q2, b1.trans (b2.mono b1.size), Nat.le_refl _, b1.size, ?_, ?_⟩
      · have := q2.lt; omega
      · have := q1.lt; omega
    have HP : Hid (∃ L, PX w w.heap.size (w1.heap.size + 1) w1.heap.size L L w2) := ⟨_, hpx⟩
    obtain ⟨b, hbe⟩ : ∃ b, b = w.heap.size := ⟨_, rfl⟩
    obtain ⟨r, hre⟩ : ∃ r, r = w1.heap.size + 1 := ⟨_, rfl⟩
    obtain ⟨g, hge⟩ : ∃ g, g = w1.heap.size := ⟨_, rfl⟩
    rw [← hre] at HP ⊢
    rw [← hbe, ← hge] at HP
    rw [← hbe]
    clear hnew2 q1 q2 b1 b2 hbe hre hge hpx
    go_wp2_with (go_at_call 8; refine Calls.mono (awake_any _) ?_; rintro e w3 ⟨rfl, b3⟩)
    have HP3 : Hid (∃ L, PX w b r g L L w3) := (by
      obtain ⟨L, h5⟩ := HP.out
      exact ⟨L, h5.below b3⟩)
    clear HP b3
    go_loopw [5, 7, 9] (fun sv rv iv wr => ∃ (i b r g : Nat) (L : List Bool), iv = .int .i64 i ∧ i ≤ 100 ∧ sv = .pointer (some ⟨b, 0, none⟩) ∧ rv = .pointer (some ⟨r, 0, none⟩) ∧ PX w b r g L L wr) (fun _ _ iv _ => 100 - (intOf iv).toNat)
    case atStart =>
      obtain ⟨L, h5⟩ := HP3.out
      exact ⟨0, b, r, g, L, rfl, by omega, rfl, rfl, h5⟩
    case round =>
      clear HP3
      obtain ⟨i, b, r, g, L, rfl, hi, rfl, rfl, hpx⟩ := hrel
      by_cases hlt : i < ops.length ∧ i < 100
      · obtain ⟨sb, so, rfl, hsm, hcs⟩ := HI.out.at hlt.1
        have t1 : (i : Int) < (ops.length : Int) := by omega
        have t2 : (i : Int) < 100 := by omega
        obtain ⟨e0, e1, e2⟩ := hcs wr hpx.old
        obtain ⟨o, ho⟩ : ∃ o, o = ops[i] := ⟨_, rfl⟩
        rw [← ho] at hsm e0 e1 e2
        obtain ⟨kd, A, K⟩ := o
        dsimp only at hsm e0 e1 e2
        have HPR : Hid (PX w b r g L L wr) := hpx
        clear ho hcs hpx
        go_upto_block 2 with fail
        obtain ⟨W, hW⟩ : ∃ W, W = wr.alloc (.cells #[.int .i64 kd, .int .i64 A, .int .i64 K] 32) := ⟨_, rfl⟩
        obtain ⟨X, hX⟩ : ∃ X, X = wr.heap.size := ⟨_, rfl⟩
        rw [← hW, ← hX]
        have HPX : Hid (PX w b r g L L W) := (by rw [hW]; exact HPR.out.below ((Below.refl _ _).alloc (Nat.le_refl _) _))
        have hox : OBx W X kd A K := by rw [hW, hX]; exact heap_alloc_new wr _
        have hXb : X ≠ b := by have := HPR.out.sp.lt; omega
        have hXg : X ≠ g := by have := HPR.out.hgl; omega
        have HOX : Hid (X ≠ b ∧ X ≠ g ∧ ∀ W1 w5 : World, W1.heap = W.heap → Kep (fun q => q ≠ b) W1 w5 → OBx w5 X kd A K) := ⟨hXb, hXg, fun W1 w5 e s2 => (show OBx W1 X kd A K by rw [OBx, e]; exact hox).kept s2 hXb⟩
        obtain ⟨y0, y1, y2⟩ := hox.at
        clear e0 e1 e2 hW hX hox hXb hXg HPR
        go_cut [11, 5, 7] (fun okv sv rv wc => okv = .bool true ∧ ∃ b r g L, sv = .pointer (some ⟨b, 0, none⟩) ∧ rv = .pointer (some ⟨r, 0, none⟩) ∧ PX w b r g L L wc)
        case first =>
          by_cases k0 : kd = 0
          · subst k0
            obtain ⟨T, hT⟩ : ∃ T, T = takeF L K := ⟨_, rfl⟩
            have hg1 := take_any W b L K HPX.out.sp
            rw [← hT] at hg1
            have HG2 : Hid (∀ w5, Spc w5 b T.2.2 → Kep (fun q => q ≠ b) W w5 → (w5.cell? ⟨X, 2, none⟩ = some (.int .i64 K)) ∧ Calls Try.prog 10 #[.pointer (some ⟨r, 0, none⟩), .int .i64 K] w5 fun e w6 => e = .returned (.tuple #[.int .i64 T.1, .int .i64 T.2.1]) ∧ PX w b r g T.2.2 T.2.2 w6) := (by
              intro w5 s1 s2
              have hp5 := HPX.out.code s1 s2
              have h6 := refTake_any w5 r g L K hp5.rs
              rw [← hT] at h6
              refine ⟨(HOX.out.2.2 W w5 rfl s2).at.2.2, h6.mono ?_⟩
              rintro e w6 ⟨rfl, s3, s4⟩
              exact ⟨rfl, hp5.ref s3 s4⟩)
            obtain ⟨v0, hv0⟩ : ∃ v, v = T.1 := ⟨_, rfl⟩
            obtain ⟨v1, hv1⟩ : ∃ v, v = T.2.1 := ⟨_, rfl⟩
            rw [← hv0, ← hv1] at hg1 HG2
            clear hT hv0 hv1
            go_wp2_with (first
              | (go_at_call 9; refine Calls.mono hg1 ?_; rintro e w5 ⟨rfl, s1, s2⟩; have hg2 := (HG2.out w5 s1 s2).2; have z2 := (HG2.out w5 s1 s2).1)
              | (go_at_call 10; refine Calls.mono hg2 ?_; rintro e w6 ⟨rfl, s3⟩))
            go_meet
            case rel => exact ⟨rfl, b, r, g, T.2.2, rfl, rfl, s3⟩
          · have k0b : (kd == 0) = false := by simpa using k0
            by_cases k1 : kd = 1
            · subst k1
              obtain ⟨v, hv⟩ : ∃ v : Int, v = (if turnB L A K true then 0 else 1) := ⟨_, rfl⟩
              obtain ⟨L', hL'⟩ : ∃ L', L' = (if turnB L A K true then putB L A.toNat K.toNat false else L) := ⟨_, rfl⟩
              have hg1 := give_any W.drew b L A K (HPX.out.below (Below.refl _ W).drew).sp hsm
              rw [← hv, ← hL'] at hg1
              have HG2 : Hid (∀ w5, Spc w5 b L' → Kep (fun q => q ≠ b) W.drew w5 → Calls Try.prog 12 #[.pointer (some ⟨r, 0, none⟩), .int .i64 A, .int .i64 K] w5 fun e w6 => e = .returned (.int .i64 v) ∧ PX w b r g L' L' w6 ∧ OBx w6 X 1 A K) := (by
                intro w5 s1 s2
                have hp5 := (HPX.out.below (Below.refl _ W).drew).code s1 s2
                have h6 := refGive_any w5 r g L A K hp5.rs
                rw [← hv, ← hL'] at h6
                refine h6.mono ?_
                rintro e w6 ⟨rfl, s3, s4⟩
                exact ⟨rfl, hp5.ref s3 s4, ((HOX.out.2.2 W.drew w5 rfl s2).kept s4 HOX.out.2.1)⟩)
              have HO5 : Hid (∀ w5, Kep (fun q => q ≠ b) W.drew w5 → w5.cell? ⟨X, 1, none⟩ = some (.int .i64 A) ∧ w5.cell? ⟨X, 2, none⟩ = some (.int .i64 K)) := fun w5 s2 => (HOX.out.2.2 W.drew w5 rfl s2).at.2
              clear hv hL'
              go_wp2
              go_region_held3 (fun w' => w'.cell? ⟨X, 1, none⟩ = some (.int .i64 A) ∧ w'.cell? ⟨X, 2, none⟩ = some (.int .i64 K)) (go_keep)
                (first
                  | (go_at_call 11; refine Calls.mono hg1 ?_; rintro e w5 ⟨rfl, s1, s2, s3⟩; have z1 := (HO5.out w5 s2).1; have z2 := (HO5.out w5 s2).2)
                  | (go_at_call 12; refine Calls.mono (HG2.out _ s1 s2) ?_; rintro e w6 ⟨rfl, s4, s5⟩; have z3 := s5.at.2.1; have z4 := s5.at.2.2))
              go_wp2
              go_meet
              case rel => exact ⟨rfl, b, r, g, L', rfl, rfl, s4⟩
            · have k1b : (kd == 1) = false := by simpa using k1
              by_cases k2 : kd = 2
              · subst k2
                obtain ⟨v, hv⟩ : ∃ v : Int, v = (if turnB L A K false then 0 else 1) := ⟨_, rfl⟩
                obtain ⟨L', hL'⟩ : ∃ L', L' = (if turnB L A K false then putB L A.toNat K.toNat true else L) := ⟨_, rfl⟩
                have hg1 := mark_any W.drew b L A K (HPX.out.below (Below.refl _ W).drew).sp hsm
                rw [← hv, ← hL'] at hg1
                have HG2 : Hid (∀ w5, Spc w5 b L' → Kep (fun q => q ≠ b) W.drew w5 → Calls Try.prog 14 #[.pointer (some ⟨r, 0, none⟩), .int .i64 A, .int .i64 K] w5 fun e w6 => e = .returned (.int .i64 v) ∧ PX w b r g L' L' w6 ∧ OBx w6 X 2 A K) := (by
                  intro w5 s1 s2
                  have hp5 := (HPX.out.below (Below.refl _ W).drew).code s1 s2
                  have h6 := refMark_any w5 r g L A K hp5.rs
                  rw [← hv, ← hL'] at h6
                  refine h6.mono ?_
                  rintro e w6 ⟨rfl, s3, s4⟩
                  exact ⟨rfl, hp5.ref s3 s4, ((HOX.out.2.2 W.drew w5 rfl s2).kept s4 HOX.out.2.1)⟩)
                have HO5 : Hid (∀ w5, Kep (fun q => q ≠ b) W.drew w5 → w5.cell? ⟨X, 1, none⟩ = some (.int .i64 A) ∧ w5.cell? ⟨X, 2, none⟩ = some (.int .i64 K)) := fun w5 s2 => (HOX.out.2.2 W.drew w5 rfl s2).at.2
                clear hv hL'
                go_wp2
                go_region_held3 (fun w' => w'.cell? ⟨X, 1, none⟩ = some (.int .i64 A) ∧ w'.cell? ⟨X, 2, none⟩ = some (.int .i64 K)) (go_keep)
                  (first
                    | (go_at_call 13; refine Calls.mono hg1 ?_; rintro e w5 ⟨rfl, s1, s2, s3⟩; have z1 := (HO5.out w5 s2).1; have z2 := (HO5.out w5 s2).2)
                    | (go_at_call 14; refine Calls.mono (HG2.out _ s1 s2) ?_; rintro e w6 ⟨rfl, s4, s5⟩; have z3 := s5.at.2.1; have z4 := s5.at.2.2))
                go_wp2
                go_meet
                case rel => exact ⟨rfl, b, r, g, L', rfl, rfl, s4⟩
              · have k2b : (kd == 2) = false := by simpa using k2
                by_cases k3 : kd = 3
                · subst k3
                  have hg1 := copy_any W b L HPX.out.sp
                  have HG2 : Hid (∀ w5, Spc w5 W.heap.size L → Below W.heap.size W w5 → Calls Try.prog 16 #[.pointer (some ⟨r, 0, none⟩)] w5 fun e w6 => ∃ r' g', e = .returned (.pointer (some ⟨r', 0, none⟩)) ∧ PX w W.heap.size r' g' L L w6) := (by
                    intro w5 s1 s2
                    have hp5 := HPX.out.below s2
                    refine (refCopy_any w5 r g L hp5.rs).mono ?_
                    rintro e w6 ⟨r', g', rfl, s3, s4, s5, s6⟩
                    have h7 := s1.lt
                    refine ⟨r', g', rfl, s1.below s6, s3, hp5.old.trans (s6.mono hp5.old.size), HPX.out.old.size, Nat.le_trans hp5.old.size s4, s5, by omega⟩)
                  obtain ⟨bn, hbn⟩ : ∃ bn, bn = W.heap.size := ⟨_, rfl⟩
                  rw [← hbn] at hg1
                  have HBN : Hid (bn = W.heap.size) := hbn
                  clear hbn
                  go_wp2_with (first
                    | (go_at_call 15; refine Calls.mono hg1 ?_; rintro e w5 ⟨rfl, s1, s2⟩; have hg2 := HG2.out w5 (by rw [← HBN.out]; exact s1) (by rw [← HBN.out]; exact s2))
                    | (go_at_call 16; refine Calls.mono hg2 ?_; rintro e w6 ⟨r', g', rfl, s3⟩))
                  go_meet
                  case rel => exact ⟨rfl, bn, r', g', L, rfl, rfl, by rw [HBN.out]; exact s3⟩
                · have k3b : (kd == 3) = false := by simpa using k3
                  go_wp2
                  go_meet
                  case rel => exact ⟨rfl, b, r, g, L, rfl, rfl, HPX.out⟩
        case rest =>
          obtain ⟨rfl, b2, r2, g2, L2, rfl, rfl, hpx⟩ := hcut
          have hfr := free_any wc b2 L2 hpx.sp
          have HPC : Hid (PX w b2 r2 g2 L2 L2 wc) := hpx
          clear HPX HOX y0 y1 y2 hpx
          go_wp2_with fail
          refine Calls.mono hfr ?_
          rintro e w4 ⟨rfl, b4⟩
          have hp4 := HPC.out.below b4
          have hfr2 := refFree_any w4 r2 g2 L2 hp4.rs
          have HP4 : Hid (PX w b2 r2 g2 L2 L2 w4) := hp4
          clear hfr b4 hp4 HPC
          go_wp2_with fail
          refine Calls.mono hfr2 ?_
          rintro e w5 ⟨rfl, rfl⟩
          have hrn := runsM_any w4 b2 L2 HP4.out.sp
          clear hfr2
          obtain ⟨xs, hxs⟩ : ∃ xs, xs = runsL L2 := ⟨_, rfl⟩
          have hx4 : xs.length ≤ 4096 := by rw [hxs]; exact Nat.le_trans (runs_len L2) HP4.out.sp.len
          rw [← hxs] at hrn
          have HXS : Hid (xs = runsL L2) := hxs
          clear hxs
          go_wp2_with fail
          refine Calls.mono hrn ?_
          rintro e w5 ⟨a5, c5, rfl, hr5, b5⟩
          have hp5 := HP4.out.below b5
          have hrn2 := refRuns_any w5 r2 g2 L2 hp5.rs
          rw [← HXS.out] at hrn2
          have HP5 : Hid (PX w b2 r2 g2 L2 L2 w5 ∧ Rws w5 w4.heap.size a5 xs) := ⟨hp5, hr5⟩
          clear hrn hr5 b5 hp5 HP4
          go_wp2_with fail
          refine Calls.mono hrn2 ?_
          rintro e w6 ⟨a6, c6, rfl, hr6, b6⟩
          have hsm := same_any w6 w4.heap.size w5.heap.size a5 a6 c5 c6 xs (HP5.out.2.below b6) hr6 hx4
          have HP6 : Hid (PX w b2 r2 g2 L2 L2 w6) := HP5.out.1.below b6
          clear hrn2 hr6 b6 HP5
          go_wp2_with fail
          refine Calls.mono hsm ?_
          rintro e w7 ⟨rfl, b7⟩
          have HP7 : Hid (PX w b2 r2 g2 L2 L2 w7) := HP6.out.below b7
          clear hsm b7 HP6 hx4
          go_wp2
          go_roundw
          case rel => exact ⟨i + 1, b2, r2, g2, L2, by go_num, by omega, rfl, rfl, HP7.out⟩
          case measure => simp [intOf]; omega
      · have HPC : Hid (PX w b r g L L wr) := hpx
        clear hpx HI
        by_cases h6 : i < ops.length
        · have t1 : (i : Int) < (ops.length : Int) := by omega
          have t2 : ¬ (i : Int) < 100 := by omega
          go_wp2
          go_ret
          exact ⟨rfl, HPC.out.old⟩
        · have t1 : ¬ (i : Int) < (ops.length : Int) := by omega
          go_wp2
          go_ret
          exact ⟨rfl, HPC.out.old⟩
end Go.Proofs.Ythbgbehmknnohaa
