/-
  The texts of a time: the document's Basic, Day, Iso and Http by their contracts.
-/
import Derived.Test.YtbemlmhchpinhaaDoorTexts
import Derived.Test.YtbemlmhchpinhaaDoorRefOfK
namespace Go.Proofs.YtbemlmhchpinhaaDoor
open Go.RowKit

theorem wide2_int (v : Int) (w : World) (h0 : 0 ≤ v) (h : v < 100) :
    Calls Tryd.prog 35 #[.int .i64 v, .int .i64 2] w fun e w' => e = .returned (.string ⟨(p2 v).toArray⟩) ∧ w' = w := by
  have := wide2 v.toNat w (by omega)
  rw [Int.toNat_of_nonneg h0] at this
  exact this.mono fun _ _ h => ⟨h.1, h.2.symm⟩
theorem wide4_int (v : Int) (w : World) (h0 : 1000 ≤ v) (h : v < 10000) :
    Calls Tryd.prog 35 #[.int .i64 v, .int .i64 4] w fun e w' => e = .returned (.string ⟨(p4 v).toArray⟩) ∧ w' = w := by
  have := wide4 v.toNat w (by omega) (by omega)
  rw [Int.toNat_of_nonneg (by omega)] at this
  exact this.mono fun _ _ h => ⟨h.1, h.2.symm⟩
theorem wpart2 (v : Int) (h0 : 0 ≤ v) (h : v < 100) : ∃ P : ByteArray, P.data.toList = p2 v ∧ P.size = 2 ∧
    ∀ wx, Calls Tryd.prog 35 #[.int .i64 v, .int .i64 2] wx fun e w' => e = .returned (.string P) ∧ w' = wx :=
  ⟨⟨(p2 v).toArray⟩, by simp, rfl, fun wx => wide2_int v wx h0 h⟩
theorem wpart4 (v : Int) (h0 : 1000 ≤ v) (h : v < 10000) : ∃ P : ByteArray, P.data.toList = p4 v ∧ P.size = 4 ∧
    ∀ wx, Calls Tryd.prog 35 #[.int .i64 v, .int .i64 4] wx fun e w' => e = .returned (.string P) ∧ w' = wx :=
  ⟨⟨(p4 v).toArray⟩, by simp, rfl, fun wx => wide4_int v wx h0 h⟩
/-- The document's Civil at a time, its parts as numbers with no form. -/
theorem refCivil_ex (t : Int) (ht : timeB t = true) : ∃ y m d h i s : Int,
    (yO (t / 86400) = y ∧ mO (t / 86400) = m ∧ dO (t / 86400) = d ∧ hO t = h ∧ iO t = i ∧ sO t = s) ∧
    (1970 ≤ y ∧ y ≤ 9999 ∧ 1 ≤ m ∧ m ≤ 12 ∧ 1 ≤ d ∧ d ≤ 31 ∧ 0 ≤ h ∧ h ≤ 23 ∧ 0 ≤ i ∧ i ≤ 59 ∧ 0 ≤ s ∧ s ≤ 59) ∧
    ∀ wx, Calls Tryd.prog 10 #[.int .i64 t] wx fun e w' => e = .returned (.tuple #[.agg #[.int .i64 y, .int .i64 m, .int .i64 d, .int .i64 h, .int .i64 i, .int .i64 s], .bool true]) ∧ Below wx.heap.size wx w' := by
  obtain ⟨⟨a, b, c, d, e, f⟩, g⟩ := parts_bd ht
  exact ⟨_, _, _, _, _, _, ⟨rfl, rfl, rfl, rfl, rfl, rfl⟩, ⟨a, b, c, d, e, f, g⟩, fun wx => refCivil_yes t wx ht⟩

set_option maxHeartbeats 2000000 in
set_option maxRecDepth 20000 in
theorem refBasic_any (t : Int) (w : World) :
    Calls Tryd.prog 14 #[.int .i64 t] w fun e w' => e = .returned (.string ⟨(basicL t).toArray⟩) ∧ Below w.heap.size w w' := by
  by_cases ht : timeB t = true
  · obtain ⟨y, m, d, h, i, s, eq, ⟨y0, y1, m0, m1, d0, d1, h0, h1, i0, i1, s0, s1⟩, cC⟩ := refCivil_ex t ht
    obtain ⟨Y, eY, zY, cY⟩ := wpart4 y (by omega) (by omega)
    obtain ⟨M, eM, zM, cM⟩ := wpart2 m (by omega) (by omega)
    obtain ⟨D, eD, zD, cD⟩ := wpart2 d (by omega) (by omega)
    obtain ⟨H, eH, zH, cH⟩ := wpart2 h (by omega) (by omega)
    obtain ⟨I, eI, zI, cI⟩ := wpart2 i (by omega) (by omega)
    obtain ⟨S, eS, zS, cS⟩ := wpart2 s (by omega) (by omega)
    obtain ⟨X1, e1, z1, f1⟩ := cat_ex Y M (by rw [zY, zM]; decide)
    obtain ⟨X2, e2, z2, f2⟩ := cat_ex X1 D (by rw [z1, zY, zM, zD]; decide)
    obtain ⟨X3, e3, z3, f3⟩ := cat_ex X2 ⟨#[84]⟩ (by rw [z2, z1, zY, zM, zD]; decide)
    obtain ⟨X4, e4, z4, f4⟩ := cat_ex X3 H (by rw [z3, z2, z1, zY, zM, zD, zH]; decide)
    obtain ⟨X5, e5, z5, f5⟩ := cat_ex X4 I (by rw [z4, z3, z2, z1, zY, zM, zD, zH, zI]; decide)
    obtain ⟨X6, e6, z6, f6⟩ := cat_ex X5 S (by rw [z5, z4, z3, z2, z1, zY, zM, zD, zH, zI, zS]; decide)
    obtain ⟨X7, e7, z7, f7⟩ := cat_ex X6 ⟨#[90]⟩ (by rw [z6, z5, z4, z3, z2, z1, zY, zM, zD, zH, zI, zS]; decide)
    have HX : Hid (X7 = ⟨(basicL t).toArray⟩) := ba_of (by
      unfold basicL
      rw [if_pos ht, eq.1, eq.2.1, eq.2.2.1, eq.2.2.2.1, eq.2.2.2.2.1, eq.2.2.2.2.2, e7, e6, e5, e4, e3, e2, e1, eY, eM, eD, eH, eI, eS]
      simp only [txBasic, txDay, List.append_assoc])
    have CC := (show Hid _ from cC)
    have CY := (show Hid _ from cY)
    have CM := (show Hid _ from cM)
    have CD := (show Hid _ from cD)
    have CH := (show Hid _ from cH)
    have CI := (show Hid _ from cI)
    have CS := (show Hid _ from cS)
    clear cC cY cM cD cH cI cS eq eY eM eD eH eI eS zY zM zD zH zI zS e1 e2 e3 e4 e5 e6 e7 z1 z2 z3 z4 z5 z6 z7 ht
    go_enter Tryd.func14, Tryd.ntmps14
    go_wp2_with fail
    refine (CC.out _).mono ?_
    rintro e w1 ⟨rfl, hb1⟩
    have HB : Hid (Below w.heap.size w w1) := hb1
    have hsz := hb1.size
    clear hb1
    go_wp2_with fail
    go_quiet (first
      | (go_at_call 35; with_reducible exact Calls.quiet_of_same (CY.out _))
      | (go_at_call 35; with_reducible exact Calls.quiet_of_same (CM.out _))
      | (go_at_call 35; with_reducible exact Calls.quiet_of_same (CD.out _))
      | (go_at_call 35; with_reducible exact Calls.quiet_of_same (CH.out _))
      | (go_at_call 35; with_reducible exact Calls.quiet_of_same (CI.out _))
      | (go_at_call 35; with_reducible exact Calls.quiet_of_same (CS.out _)))
    go_wp2
    go_ret
    exact ⟨ret_str HX.out, below_drewN (HB.out.alloc hsz _) _⟩
  · have ht' : timeB t = false := by simpa using ht
    have HX : Hid (basicL t = []) := by show _ = _; unfold basicL; rw [if_neg ht]
    have CC := (show Hid _ from fun wx => refCivil_no t wx ht')
    unfold dateV at CC
    clear ht ht'
    go_enter Tryd.func14, Tryd.ntmps14
    go_wp2_with fail
    refine (CC.out _).mono ?_
    rintro e w1 ⟨rfl, hb1⟩
    have HB : Hid (Below w.heap.size w w1) := hb1
    have hsz := hb1.size
    clear hb1
    go_wp2
    go_ret
    exact ⟨ret_str (by rw [HX.out]), HB.out.alloc hsz _⟩

set_option maxHeartbeats 2000000 in
set_option maxRecDepth 20000 in
theorem refIso_any (t : Int) (w : World) :
    Calls Tryd.prog 18 #[.int .i64 t] w fun e w' => e = .returned (.string ⟨(isoL t).toArray⟩) ∧ Below w.heap.size w w' := by
  by_cases ht : timeB t = true
  · obtain ⟨y, m, d, h, i, s, eq, ⟨y0, y1, m0, m1, d0, d1, h0, h1, i0, i1, s0, s1⟩, cC⟩ := refCivil_ex t ht
    obtain ⟨Y, eY, zY, cY⟩ := wpart4 y (by omega) (by omega)
    obtain ⟨M, eM, zM, cM⟩ := wpart2 m (by omega) (by omega)
    obtain ⟨D, eD, zD, cD⟩ := wpart2 d (by omega) (by omega)
    obtain ⟨H, eH, zH, cH⟩ := wpart2 h (by omega) (by omega)
    obtain ⟨I, eI, zI, cI⟩ := wpart2 i (by omega) (by omega)
    obtain ⟨S, eS, zS, cS⟩ := wpart2 s (by omega) (by omega)
    obtain ⟨X1, e1, z1, f1⟩ := cat_ex Y ⟨#[45]⟩ (by rw [zY]; decide)
    obtain ⟨X2, e2, z2, f2⟩ := cat_ex X1 M (by rw [z1, zY, zM]; decide)
    obtain ⟨X3, e3, z3, f3⟩ := cat_ex X2 ⟨#[45]⟩ (by rw [z2, z1, zY, zM]; decide)
    obtain ⟨X4, e4, z4, f4⟩ := cat_ex X3 D (by rw [z3, z2, z1, zY, zM, zD]; decide)
    obtain ⟨X5, e5, z5, f5⟩ := cat_ex X4 ⟨#[84]⟩ (by rw [z4, z3, z2, z1, zY, zM, zD]; decide)
    obtain ⟨X6, e6, z6, f6⟩ := cat_ex X5 H (by rw [z5, z4, z3, z2, z1, zY, zM, zD, zH]; decide)
    obtain ⟨X7, e7, z7, f7⟩ := cat_ex X6 ⟨#[58]⟩ (by rw [z6, z5, z4, z3, z2, z1, zY, zM, zD, zH]; decide)
    obtain ⟨X8, e8, z8, f8⟩ := cat_ex X7 I (by rw [z7, z6, z5, z4, z3, z2, z1, zY, zM, zD, zH, zI]; decide)
    obtain ⟨X9, e9, z9, f9⟩ := cat_ex X8 ⟨#[58]⟩ (by rw [z8, z7, z6, z5, z4, z3, z2, z1, zY, zM, zD, zH, zI]; decide)
    obtain ⟨X10, e10, z10, f10⟩ := cat_ex X9 S (by rw [z9, z8, z7, z6, z5, z4, z3, z2, z1, zY, zM, zD, zH, zI, zS]; decide)
    obtain ⟨X11, e11, z11, f11⟩ := cat_ex X10 ⟨#[46, 48, 48, 48, 90]⟩ (by rw [z10, z9, z8, z7, z6, z5, z4, z3, z2, z1, zY, zM, zD, zH, zI, zS]; decide)
    have HX : Hid (X11 = ⟨(isoL t).toArray⟩) := ba_of (by
      unfold isoL
      rw [if_pos ht, eq.1, eq.2.1, eq.2.2.1, eq.2.2.2.1, eq.2.2.2.2.1, eq.2.2.2.2.2, e11, e10, e9, e8, e7, e6, e5, e4, e3, e2, e1, eY, eM, eD, eH, eI, eS]
      simp only [txIso, txClock, List.append_assoc])
    have CC := (show Hid _ from cC)
    have CY := (show Hid _ from cY)
    have CM := (show Hid _ from cM)
    have CD := (show Hid _ from cD)
    have CH := (show Hid _ from cH)
    have CI := (show Hid _ from cI)
    have CS := (show Hid _ from cS)
    clear cC cY cM cD cH cI cS eq eY eM eD eH eI eS zY zM zD zH zI zS e1 e2 e3 e4 e5 e6 e7 e8 e9 e10 e11 z1 z2 z3 z4 z5 z6 z7 z8 z9 z10 z11 ht
    go_enter Tryd.func18, Tryd.ntmps18
    go_wp2_with fail
    refine (CC.out _).mono ?_
    rintro e w1 ⟨rfl, hb1⟩
    have HB : Hid (Below w.heap.size w w1) := hb1
    have hsz := hb1.size
    clear hb1
    go_wp2_with fail
    go_quiet (first
      | (go_at_call 35; with_reducible exact Calls.quiet_of_same (CY.out _))
      | (go_at_call 35; with_reducible exact Calls.quiet_of_same (CM.out _))
      | (go_at_call 35; with_reducible exact Calls.quiet_of_same (CD.out _))
      | (go_at_call 35; with_reducible exact Calls.quiet_of_same (CH.out _))
      | (go_at_call 35; with_reducible exact Calls.quiet_of_same (CI.out _))
      | (go_at_call 35; with_reducible exact Calls.quiet_of_same (CS.out _)))
    go_wp2
    go_ret
    exact ⟨ret_str HX.out, below_drewN (HB.out.alloc hsz _) _⟩
  · have ht' : timeB t = false := by simpa using ht
    have HX : Hid (isoL t = []) := by show _ = _; unfold isoL; rw [if_neg ht]
    have CC := (show Hid _ from fun wx => refCivil_no t wx ht')
    unfold dateV at CC
    clear ht ht'
    go_enter Tryd.func18, Tryd.ntmps18
    go_wp2_with fail
    refine (CC.out _).mono ?_
    rintro e w1 ⟨rfl, hb1⟩
    have HB : Hid (Below w.heap.size w w1) := hb1
    have hsz := hb1.size
    clear hb1
    go_wp2
    go_ret
    exact ⟨ret_str (by rw [HX.out]), HB.out.alloc hsz _⟩

set_option maxHeartbeats 2000000 in
set_option maxRecDepth 20000 in
theorem refHttp_any (t : Int) (w : World) :
    Calls Tryd.prog 20 #[.int .i64 t] w fun e w' => e = .returned (.string ⟨(httpL t).toArray⟩) ∧ Below w.heap.size w w' := by
  by_cases ht : timeB t = true
  · obtain ⟨y, m, d, h, i, s, eq, ⟨y0, y1, m0, m1, d0, d1, h0, h1, i0, i1, s0, s1⟩, cC⟩ := refCivil_ex t ht
    have htb : 0 ≤ t ∧ t ≤ 253402300799 := by simpa [timeB] using ht
    obtain ⟨ht0, ht1⟩ := htb
    obtain ⟨W, WL, WM⟩ : ∃ W : ByteArray, W.data.toList = wdL ((t / 86400 + 3) % 7).toNat ∧ weekT.extract (3 * ((t / 86400 + 3) % 7)).toNat (3 * ((t / 86400 + 3) % 7) + 3).toNat = W :=
      ⟨_, by unfold wdL wdT; congr 3 <;> omega, rfl⟩
    have eW := WL
    have zW : W.size = 3 := by rw [ba_len WL, wd_len _ (by omega)]
    obtain ⟨N, NL, NM⟩ : ∃ N : ByteArray, N.data.toList = monL (m - 1).toNat ∧ monthT.extract (3 * m - 3).toNat (3 * m).toNat = N :=
      ⟨_, by unfold monL monT; congr 3 <;> omega, rfl⟩
    have eN := NL
    have zN : N.size = 3 := by rw [ba_len NL, mon_len _ (by omega)]
    obtain ⟨D, eD, zD, cD⟩ := wpart2 d (by omega) (by omega)
    obtain ⟨Y, eY, zY, cY⟩ := wpart4 y (by omega) (by omega)
    obtain ⟨H, eH, zH, cH⟩ := wpart2 h (by omega) (by omega)
    obtain ⟨I, eI, zI, cI⟩ := wpart2 i (by omega) (by omega)
    obtain ⟨S, eS, zS, cS⟩ := wpart2 s (by omega) (by omega)
    obtain ⟨X1, e1, z1, f1⟩ := cat_ex W ⟨#[44, 32]⟩ (by rw [zW]; decide)
    obtain ⟨X2, e2, z2, f2⟩ := cat_ex X1 D (by rw [z1, zW, zD]; decide)
    obtain ⟨X3, e3, z3, f3⟩ := cat_ex X2 ⟨#[32]⟩ (by rw [z2, z1, zW, zD]; decide)
    obtain ⟨X4, e4, z4, f4⟩ := cat_ex X3 N (by rw [z3, z2, z1, zW, zD, zN]; decide)
    obtain ⟨X5, e5, z5, f5⟩ := cat_ex X4 ⟨#[32]⟩ (by rw [z4, z3, z2, z1, zW, zD, zN]; decide)
    obtain ⟨X6, e6, z6, f6⟩ := cat_ex X5 Y (by rw [z5, z4, z3, z2, z1, zW, zD, zN, zY]; decide)
    obtain ⟨X7, e7, z7, f7⟩ := cat_ex X6 ⟨#[32]⟩ (by rw [z6, z5, z4, z3, z2, z1, zW, zD, zN, zY]; decide)
    obtain ⟨X8, e8, z8, f8⟩ := cat_ex X7 H (by rw [z7, z6, z5, z4, z3, z2, z1, zW, zD, zN, zY, zH]; decide)
    obtain ⟨X9, e9, z9, f9⟩ := cat_ex X8 ⟨#[58]⟩ (by rw [z8, z7, z6, z5, z4, z3, z2, z1, zW, zD, zN, zY, zH]; decide)
    obtain ⟨X10, e10, z10, f10⟩ := cat_ex X9 I (by rw [z9, z8, z7, z6, z5, z4, z3, z2, z1, zW, zD, zN, zY, zH, zI]; decide)
    obtain ⟨X11, e11, z11, f11⟩ := cat_ex X10 ⟨#[58]⟩ (by rw [z10, z9, z8, z7, z6, z5, z4, z3, z2, z1, zW, zD, zN, zY, zH, zI]; decide)
    obtain ⟨X12, e12, z12, f12⟩ := cat_ex X11 S (by rw [z11, z10, z9, z8, z7, z6, z5, z4, z3, z2, z1, zW, zD, zN, zY, zH, zI, zS]; decide)
    obtain ⟨X13, e13, z13, f13⟩ := cat_ex X12 ⟨#[32, 71, 77, 84]⟩ (by rw [z12, z11, z10, z9, z8, z7, z6, z5, z4, z3, z2, z1, zW, zD, zN, zY, zH, zI, zS]; decide)
    have HX : Hid (X13 = ⟨(httpL t).toArray⟩) := ba_of (by
      unfold httpL
      rw [if_pos ht, eq.1, eq.2.1, eq.2.2.1, eq.2.2.2.1, eq.2.2.2.2.1, eq.2.2.2.2.2, e13, e12, e11, e10, e9, e8, e7, e6, e5, e4, e3, e2, e1, eW, eD, eN, eY, eH, eI, eS]
      simp only [txHttp, txClock, List.append_assoc])
    have CC := (show Hid _ from cC)
    have CD := (show Hid _ from cD)
    have CY := (show Hid _ from cY)
    have CH := (show Hid _ from cH)
    have CI := (show Hid _ from cI)
    have CS := (show Hid _ from cS)
    clear cC cD cY cH cI cS eq eW eD eN eY eH eI eS zW zD zN zY zH zI zS e1 e2 e3 e4 e5 e6 e7 e8 e9 e10 e11 e12 e13 z1 z2 z3 z4 z5 z6 z7 z8 z9 z10 z11 z12 z13 ht
    go_enter Tryd.func20, Tryd.ntmps20
    go_wp2_with fail
    refine (CC.out _).mono ?_
    rintro e w1 ⟨rfl, hb1⟩
    have HB : Hid (Below w.heap.size w w1) := hb1
    have hsz := hb1.size
    clear hb1
    go_wp2_with fail
    unfold weekT at WM
    unfold monthT at NM
    rw [WM, NM]
    clear WM NM WL NL
    go_quiet (first
      | (go_at_call 35; with_reducible exact Calls.quiet_of_same (CD.out _))
      | (go_at_call 35; with_reducible exact Calls.quiet_of_same (CY.out _))
      | (go_at_call 35; with_reducible exact Calls.quiet_of_same (CH.out _))
      | (go_at_call 35; with_reducible exact Calls.quiet_of_same (CI.out _))
      | (go_at_call 35; with_reducible exact Calls.quiet_of_same (CS.out _)))
    go_wp2
    go_ret
    exact ⟨ret_str HX.out, below_drewN (HB.out.alloc hsz _) _⟩
  · have ht' : timeB t = false := by simpa using ht
    have HX : Hid (httpL t = []) := by show _ = _; unfold httpL; rw [if_neg ht]
    have CC := (show Hid _ from fun wx => refCivil_no t wx ht')
    unfold dateV at CC
    clear ht ht'
    go_enter Tryd.func20, Tryd.ntmps20
    go_wp2_with fail
    refine (CC.out _).mono ?_
    rintro e w1 ⟨rfl, hb1⟩
    have HB : Hid (Below w.heap.size w w1) := hb1
    have hsz := hb1.size
    clear hb1
    go_wp2
    go_ret
    exact ⟨ret_str (by rw [HX.out]), HB.out.alloc hsz _⟩

end Go.Proofs.YtbemlmhchpinhaaDoor
