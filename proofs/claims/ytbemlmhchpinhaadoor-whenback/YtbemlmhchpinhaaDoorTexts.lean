/-
  The texts of a time: package when's Day, Basic, Iso and Http by their contracts.
-/
import Derived.Test.YtbemlmhchpinhaaDoorPad
namespace Go.Proofs.YtbemlmhchpinhaaDoor
open Go.RowKit

def p2 (v : Int) : List UInt8 := pd2 v.toNat
def p4 (v : Int) : List UInt8 := pd4 v.toNat
theorem p2_len (v : Int) : (p2 v).length = 2 := rfl
theorem p4_len (v : Int) : (p4 v).length = 4 := rfl

def weekT : ByteArray := ⟨#[77, 111, 110, 84, 117, 101, 87, 101, 100, 84, 104, 117, 70, 114, 105, 83, 97, 116, 83, 117, 110]⟩
def monthT : ByteArray := ⟨#[74, 97, 110, 70, 101, 98, 77, 97, 114, 65, 112, 114, 77, 97, 121, 74, 117, 110, 74, 117, 108, 65, 117, 103, 83, 101, 112, 79, 99, 116, 78, 111, 118, 68, 101, 99]⟩
def wdT (i : Nat) : ByteArray := weekT.extract (3 * i) (3 * i + 3)
def monT (i : Nat) : ByteArray := monthT.extract (3 * i) (3 * i + 3)
def wdL (i : Nat) : List UInt8 := (wdT i).data.toList
def monL (i : Nat) : List UInt8 := (monT i).data.toList
theorem wd_len : ∀ i : Nat, i < 7 → (wdL i).length = 3 := by decide +kernel
theorem mon_len : ∀ i : Nat, i < 12 → (monL i).length = 3 := by decide +kernel

def txDay (y m d : Int) : List UInt8 := p4 y ++ p2 m ++ p2 d
def txBasic (y m d h i s : Int) : List UInt8 := txDay y m d ++ [84] ++ p2 h ++ p2 i ++ p2 s ++ [90]
def txClock (h i s : Int) : List UInt8 := p2 h ++ [58] ++ p2 i ++ [58] ++ p2 s
def txIso (y m d h i s : Int) : List UInt8 := p4 y ++ [45] ++ p2 m ++ [45] ++ p2 d ++ [84] ++ txClock h i s ++ [46, 48, 48, 48, 90]
def txHttp (k : Nat) (y m d h i s : Int) : List UInt8 := wdL k ++ [44, 32] ++ p2 d ++ [32] ++ monL (m - 1).toNat ++ [32] ++ p4 y ++ [32] ++ txClock h i s ++ [32, 71, 77, 84]
noncomputable def dayL (t : Int) : List UInt8 := if timeB t then txDay (yO (t / 86400)) (mO (t / 86400)) (dO (t / 86400)) else []
noncomputable def basicL (t : Int) : List UInt8 := if timeB t then txBasic (yO (t / 86400)) (mO (t / 86400)) (dO (t / 86400)) (hO t) (iO t) (sO t) else []
noncomputable def isoL (t : Int) : List UInt8 := if timeB t then txIso (yO (t / 86400)) (mO (t / 86400)) (dO (t / 86400)) (hO t) (iO t) (sO t) else []
noncomputable def httpL (t : Int) : List UInt8 := if timeB t then txHttp ((t / 86400 + 3) % 7).toNat (yO (t / 86400)) (mO (t / 86400)) (dO (t / 86400)) (hO t) (iO t) (sO t) else []

theorem ba_of {X : ByteArray} {l : List UInt8} (h : X.data.toList = l) : X = ⟨l.toArray⟩ := by
  cases X; subst h; simp
theorem ba_len {X : ByteArray} {l : List UInt8} (h : X.data.toList = l) : X.size = l.length := by
  rw [ba_of h]; simp [ByteArray.size]
/-- Two texts behind each other. -/
theorem cat_ex (A B : ByteArray) (h : A.size + B.size ≤ 1000) :
    ∃ C : ByteArray, C.data.toList = A.data.toList ++ B.data.toList ∧ C.size = A.size + B.size ∧ ∀ wx, (Op.stringOp .add A B).run Tryd.prog wx = .ok (.string C) wx :=
  ⟨A ++ B, by simp, by simp, fun wx => run_string_add_sum wx A B (by omega)⟩

theorem padded2_int (v : Int) (w : World) (h0 : 0 ≤ v) (h : v < 100) :
    Calls Tryd.prog 34 #[.int .i64 v, .int .i64 2] w fun e w' => e = .returned (.string ⟨(p2 v).toArray⟩) ∧ w = w' := by
  have := padded2 v.toNat w (by omega)
  rw [Int.toNat_of_nonneg h0] at this
  exact this
theorem padded4_int (v : Int) (w : World) (h0 : 1000 ≤ v) (h : v < 10000) (ht : Tab w) :
    Calls Tryd.prog 34 #[.int .i64 v, .int .i64 4] w fun e w' => e = .returned (.string ⟨(p4 v).toArray⟩) ∧ Below w.heap.size w w' := by
  have := padded4 v.toNat w (by omega) (by omega) ht
  rw [Int.toNat_of_nonneg (by omega)] at this
  exact this

/-- A two-digit part as a text with no form. -/
theorem part2 (v : Int) (h0 : 0 ≤ v) (h : v < 100) : ∃ P : ByteArray, P.data.toList = p2 v ∧ P.size = 2 ∧
    ∀ wx, Calls Tryd.prog 34 #[.int .i64 v, .int .i64 2] wx fun e w' => e = .returned (.string P) ∧ wx = w' :=
  ⟨⟨(p2 v).toArray⟩, by simp, rfl, fun wx => padded2_int v wx h0 h⟩
theorem part4 (v : Int) (h0 : 1000 ≤ v) (h : v < 10000) : ∃ P : ByteArray, P.data.toList = p4 v ∧ P.size = 4 ∧
    ∀ wx, Tab wx → Calls Tryd.prog 34 #[.int .i64 v, .int .i64 4] wx fun e w' => e = .returned (.string P) ∧ Below wx.heap.size wx w' :=
  ⟨⟨(p4 v).toArray⟩, by simp, rfl, fun wx ht => padded4_int v wx h0 h ht⟩

theorem parts_bd {t : Int} (h : timeB t = true) : (1970 ≤ yO (t / 86400) ∧ yO (t / 86400) ≤ 9999 ∧ 1 ≤ mO (t / 86400) ∧ mO (t / 86400) ≤ 12 ∧ 1 ≤ dO (t / 86400) ∧ dO (t / 86400) ≤ 31) ∧ 0 ≤ hO t ∧ hO t ≤ 23 ∧ 0 ≤ iO t ∧ iO t ≤ 59 ∧ 0 ≤ sO t ∧ sO t ≤ 59 := by
  simp only [timeB, decide_eq_true_eq] at h
  refine ⟨O_bd (by omega) (by omega), ?_⟩
  unfold hO iO sO
  omega

theorem clock_any (h i s : Int) (w : World) (h0 : 0 ≤ h) (h1 : h ≤ 23) (i0 : 0 ≤ i) (i1 : i ≤ 59) (s0 : 0 ≤ s) (s1 : s ≤ 59) :
    Calls Tryd.prog 36 #[.int .i64 h, .int .i64 i, .int .i64 s] w fun e w' => e = .returned (.string ⟨(txClock h i s).toArray⟩) ∧ w = w' := by
  obtain ⟨H, eH, zH, cH⟩ := part2 h h0 (by omega)
  obtain ⟨I, eI, zI, cI⟩ := part2 i i0 (by omega)
  obtain ⟨S, eS, zS, cS⟩ := part2 s s0 (by omega)
  obtain ⟨X1, e1, z1, f1⟩ := cat_ex H ⟨#[58]⟩ (by rw [zH]; decide)
  obtain ⟨X2, e2, z2, f2⟩ := cat_ex X1 I (by rw [z1, zH, zI]; decide)
  obtain ⟨X3, e3, z3, f3⟩ := cat_ex X2 ⟨#[58]⟩ (by rw [z2, z1, zH, zI]; decide)
  obtain ⟨X4, e4, z4, f4⟩ := cat_ex X3 S (by rw [z3, z2, z1, zH, zI, zS]; decide)
  have HX : Hid (X4 = ⟨(txClock h i s).toArray⟩) := ba_of (by rw [e4, e3, e2, e1, eH, eI, eS]; rfl)
  clear eH eI eS zH zI zS e1 e2 e3 e4 z1 z2 z3 z4
  have CH := (show Hid _ from cH)
  have CI := (show Hid _ from cI)
  have CS := (show Hid _ from cS)
  clear cH cI cS
  go_enter Tryd.func36, Tryd.ntmps36
  go_wp2_with fail
  refine (CH.out _).mono ?_
  rintro e w' ⟨rfl, rfl⟩
  go_wp2_with fail
  refine (CI.out _).mono ?_
  rintro e w' ⟨rfl, rfl⟩
  go_wp2_with fail
  refine (CS.out _).mono ?_
  rintro e w' ⟨rfl, rfl⟩
  go_wp2
  go_ret
  exact ⟨ret_str HX.out, rfl⟩

/-- Civil at a time, its parts as numbers with no form. -/
theorem civil_ex (t : Int) (ht : timeB t = true) : ∃ y m d h i s : Int,
    (yO (t / 86400) = y ∧ mO (t / 86400) = m ∧ dO (t / 86400) = d ∧ hO t = h ∧ iO t = i ∧ sO t = s) ∧
    (1970 ≤ y ∧ y ≤ 9999 ∧ 1 ≤ m ∧ m ≤ 12 ∧ 1 ≤ d ∧ d ≤ 31 ∧ 0 ≤ h ∧ h ≤ 23 ∧ 0 ≤ i ∧ i ≤ 59 ∧ 0 ≤ s ∧ s ≤ 59) ∧
    ∀ wx, Calls Tryd.prog 9 #[.int .i64 t] wx fun e w' => e = .returned (.tuple #[.int .i64 y, .int .i64 m, .int .i64 d, .int .i64 h, .int .i64 i, .int .i64 s, .bool true]) ∧ wx = w' := by
  obtain ⟨⟨a, b, c, d, e, f⟩, g⟩ := parts_bd ht
  exact ⟨_, _, _, _, _, _, ⟨rfl, rfl, rfl, rfl, rfl, rfl⟩, ⟨a, b, c, d, e, f, g⟩, fun wx => civil_yes t wx ht⟩

theorem day_any (t : Int) (w : World) (hT : Tab w) :
    Calls Tryd.prog 15 #[.int .i64 t] w fun e w' => e = .returned (.string ⟨(dayL t).toArray⟩) ∧ Below w.heap.size w w' := by
  by_cases ht : timeB t = true
  · obtain ⟨y, m, d, h, i, s, eq, ⟨y0, y1, m0, m1, d0, d1, h0, h1, i0, i1, s0, s1⟩, cc⟩ := civil_ex t ht
    obtain ⟨Y, eY, zY, cY⟩ := part4 y (by omega) (by omega)
    obtain ⟨M, eM, zM, cM⟩ := part2 m (by omega) (by omega)
    obtain ⟨D, eD, zD, cD⟩ := part2 d (by omega) (by omega)
    obtain ⟨X1, e1, z1, f1⟩ := cat_ex Y M (by rw [zY, zM]; decide)
    obtain ⟨X2, e2, z2, f2⟩ := cat_ex X1 D (by rw [z1, zY, zM, zD]; decide)
    have HX : Hid (X2 = ⟨(dayL t).toArray⟩) := ba_of (by unfold dayL; rw [if_pos ht, eq.1, eq.2.1, eq.2.2.1, e2, e1, eY, eM, eD]; rfl)
    have CC := (show Hid _ from cc)
    have CY := (show Hid _ from cY)
    have CM := (show Hid _ from cM)
    have CD := (show Hid _ from cD)
    clear cc cY cM cD eq eY eM eD zY zM zD e1 e2 z1 z2 ht
    go_enter Tryd.func15, Tryd.ntmps15
    go_wp2_with fail
    refine (CC.out _).mono ?_
    rintro e w' ⟨rfl, rfl⟩
    go_wp2_with fail
    refine (CY.out _ hT).mono ?_
    rintro e w1 ⟨rfl, hb1⟩
    go_wp2_with fail
    refine (CM.out _).mono ?_
    rintro e w' ⟨rfl, rfl⟩
    go_wp2_with fail
    refine (CD.out _).mono ?_
    rintro e w' ⟨rfl, rfl⟩
    go_wp2
    go_ret
    exact ⟨ret_str HX.out, hb1⟩
  · have ht' : timeB t = false := by simpa using ht
    have HX : Hid (dayL t = []) := by show _ = _; unfold dayL; rw [if_neg ht]
    have CC := (show Hid _ from fun wx => civil_no t wx ht')
    unfold civ0 at CC
    clear ht ht'
    go_enter Tryd.func15, Tryd.ntmps15
    go_wp2_with fail
    refine (CC.out _).mono ?_
    rintro e w' ⟨rfl, rfl⟩
    go_wp2
    go_ret
    exact ⟨ret_str (by rw [HX.out]), Below.refl _ _⟩

theorem basic_any (t : Int) (w : World) (hT : Tab w) :
    Calls Tryd.prog 13 #[.int .i64 t] w fun e w' => e = .returned (.string ⟨(basicL t).toArray⟩) ∧ Below w.heap.size w w' := by
  by_cases ht : timeB t = true
  · obtain ⟨y, m, d, h, i, s, eq, ⟨y0, y1, m0, m1, d0, d1, h0, h1, i0, i1, s0, s1⟩, cc⟩ := civil_ex t ht
    obtain ⟨D, eD, zD, cD⟩ : ∃ P : ByteArray, P.data.toList = txDay y m d ∧ P.size = 8 ∧
        ∀ wx, Tab wx → Calls Tryd.prog 15 #[.int .i64 t] wx fun e w' => e = .returned (.string P) ∧ Below wx.heap.size wx w' :=
      ⟨⟨(txDay y m d).toArray⟩, by simp, rfl, fun wx hx => by
        have := day_any t wx hx
        unfold dayL at this
        rw [if_pos ht, eq.1, eq.2.1, eq.2.2.1] at this
        exact this⟩
    obtain ⟨H, eH, zH, cH⟩ := part2 h h0 (by omega)
    obtain ⟨I, eI, zI, cI⟩ := part2 i i0 (by omega)
    obtain ⟨S, eS, zS, cS⟩ := part2 s s0 (by omega)
    obtain ⟨X1, e1, z1, f1⟩ := cat_ex D ⟨#[84]⟩ (by rw [zD]; decide)
    obtain ⟨X2, e2, z2, f2⟩ := cat_ex X1 H (by rw [z1, zD, zH]; decide)
    obtain ⟨X3, e3, z3, f3⟩ := cat_ex X2 I (by rw [z2, z1, zD, zH, zI]; decide)
    obtain ⟨X4, e4, z4, f4⟩ := cat_ex X3 S (by rw [z3, z2, z1, zD, zH, zI, zS]; decide)
    obtain ⟨X5, e5, z5, f5⟩ := cat_ex X4 ⟨#[90]⟩ (by rw [z4, z3, z2, z1, zD, zH, zI, zS]; decide)
    have HX : Hid (X5 = ⟨(basicL t).toArray⟩) := ba_of (by
      unfold basicL
      rw [if_pos ht, eq.1, eq.2.1, eq.2.2.1, eq.2.2.2.1, eq.2.2.2.2.1, eq.2.2.2.2.2, e5, e4, e3, e2, e1, eD, eH, eI, eS]; rfl)
    have CC := (show Hid _ from cc)
    have CD := (show Hid _ from cD)
    have CH := (show Hid _ from cH)
    have CI := (show Hid _ from cI)
    have CS := (show Hid _ from cS)
    clear cc cD cH cI cS eq eD eH eI eS zD zH zI zS e1 e2 e3 e4 e5 z1 z2 z3 z4 z5 ht
    go_enter Tryd.func13, Tryd.ntmps13
    go_wp2_with fail
    refine (CC.out _).mono ?_
    rintro e w' ⟨rfl, rfl⟩
    go_wp2_with fail
    refine (CD.out _ hT).mono ?_
    rintro e w1 ⟨rfl, hb1⟩
    go_wp2_with fail
    refine (CH.out _).mono ?_
    rintro e w' ⟨rfl, rfl⟩
    go_wp2_with fail
    refine (CI.out _).mono ?_
    rintro e w' ⟨rfl, rfl⟩
    go_wp2_with fail
    refine (CS.out _).mono ?_
    rintro e w' ⟨rfl, rfl⟩
    go_wp2
    go_ret
    exact ⟨ret_str HX.out, hb1⟩
  · have ht' : timeB t = false := by simpa using ht
    have HX : Hid (basicL t = []) := by show _ = _; unfold basicL; rw [if_neg ht]
    have CC := (show Hid _ from fun wx => civil_no t wx ht')
    unfold civ0 at CC
    clear ht ht'
    go_enter Tryd.func13, Tryd.ntmps13
    go_wp2_with fail
    refine (CC.out _).mono ?_
    rintro e w' ⟨rfl, rfl⟩
    go_wp2
    go_ret
    exact ⟨ret_str (by rw [HX.out]), Below.refl _ _⟩

/-- The clock as a text with no form. -/
theorem clock_ex (h i s : Int) (h0 : 0 ≤ h) (h1 : h ≤ 23) (i0 : 0 ≤ i) (i1 : i ≤ 59) (s0 : 0 ≤ s) (s1 : s ≤ 59) : ∃ P : ByteArray, P.data.toList = txClock h i s ∧ P.size = 8 ∧
    ∀ wx, Calls Tryd.prog 36 #[.int .i64 h, .int .i64 i, .int .i64 s] wx fun e w' => e = .returned (.string P) ∧ wx = w' :=
  ⟨⟨(txClock h i s).toArray⟩, by simp, rfl, fun wx => clock_any h i s wx h0 h1 i0 i1 s0 s1⟩

theorem iso_any (t : Int) (w : World) (hT : Tab w) :
    Calls Tryd.prog 17 #[.int .i64 t] w fun e w' => e = .returned (.string ⟨(isoL t).toArray⟩) ∧ Below w.heap.size w w' := by
  by_cases ht : timeB t = true
  · obtain ⟨y, m, d, h, i, s, eq, ⟨y0, y1, m0, m1, d0, d1, h0, h1, i0, i1, s0, s1⟩, cc⟩ := civil_ex t ht
    obtain ⟨Y, eY, zY, cY⟩ := part4 y (by omega) (by omega)
    obtain ⟨M, eM, zM, cM⟩ := part2 m (by omega) (by omega)
    obtain ⟨D, eD, zD, cD⟩ := part2 d (by omega) (by omega)
    obtain ⟨K, eK, zK, cK⟩ := clock_ex h i s h0 h1 i0 i1 s0 s1
    obtain ⟨X1, e1, z1, f1⟩ := cat_ex Y ⟨#[45]⟩ (by rw [zY]; decide)
    obtain ⟨X2, e2, z2, f2⟩ := cat_ex X1 M (by rw [z1, zY, zM]; decide)
    obtain ⟨X3, e3, z3, f3⟩ := cat_ex X2 ⟨#[45]⟩ (by rw [z2, z1, zY, zM]; decide)
    obtain ⟨X4, e4, z4, f4⟩ := cat_ex X3 D (by rw [z3, z2, z1, zY, zM, zD]; decide)
    obtain ⟨X5, e5, z5, f5⟩ := cat_ex X4 ⟨#[84]⟩ (by rw [z4, z3, z2, z1, zY, zM, zD]; decide)
    obtain ⟨X6, e6, z6, f6⟩ := cat_ex X5 K (by rw [z5, z4, z3, z2, z1, zY, zM, zD, zK]; decide)
    obtain ⟨X7, e7, z7, f7⟩ := cat_ex X6 ⟨#[46, 48, 48, 48, 90]⟩ (by rw [z6, z5, z4, z3, z2, z1, zY, zM, zD, zK]; decide)
    have HX : Hid (X7 = ⟨(isoL t).toArray⟩) := ba_of (by
      unfold isoL
      rw [if_pos ht, eq.1, eq.2.1, eq.2.2.1, eq.2.2.2.1, eq.2.2.2.2.1, eq.2.2.2.2.2, e7, e6, e5, e4, e3, e2, e1, eD, eY, eM, eK]; rfl)
    have CC := (show Hid _ from cc)
    have CY := (show Hid _ from cY)
    have CM := (show Hid _ from cM)
    have CD := (show Hid _ from cD)
    have CK := (show Hid _ from cK)
    clear cc cY cM cD cK eq eY eM eD eK zY zM zD zK e1 e2 e3 e4 e5 e6 e7 z1 z2 z3 z4 z5 z6 z7 ht
    go_enter Tryd.func17, Tryd.ntmps17
    go_wp2_with fail
    refine (CC.out _).mono ?_
    rintro e w' ⟨rfl, rfl⟩
    go_wp2_with fail
    refine (CY.out _ hT).mono ?_
    rintro e w1 ⟨rfl, hb1⟩
    go_wp2_with fail
    refine (CM.out _).mono ?_
    rintro e w' ⟨rfl, rfl⟩
    go_wp2_with fail
    refine (CD.out _).mono ?_
    rintro e w' ⟨rfl, rfl⟩
    go_wp2_with fail
    refine (CK.out _).mono ?_
    rintro e w' ⟨rfl, rfl⟩
    go_wp2
    go_ret
    exact ⟨ret_str HX.out, hb1⟩
  · have ht' : timeB t = false := by simpa using ht
    have HX : Hid (isoL t = []) := by show _ = _; unfold isoL; rw [if_neg ht]
    have CC := (show Hid _ from fun wx => civil_no t wx ht')
    unfold civ0 at CC
    clear ht ht'
    go_enter Tryd.func17, Tryd.ntmps17
    go_wp2_with fail
    refine (CC.out _).mono ?_
    rintro e w' ⟨rfl, rfl⟩
    go_wp2
    go_ret
    exact ⟨ret_str (by rw [HX.out]), Below.refl _ _⟩

theorem nameAt_any (N : ByteArray) (i : Nat) (w : World) (hi : i < 12) (hz : 3 * i + 3 ≤ N.size) :
    Calls Tryd.prog 37 #[.string N, .int .i64 (i : Int)] w fun e w' => e = .returned (.string (N.extract (3 * i) (3 * i + 3))) ∧ w = w' := by
  have hz' : ((i : Int) + 1) * 3 ≤ (N.size : Int) := by omega
  go_enter Tryd.func37, Tryd.ntmps37
  go_wp2
  go_ret
  exact ⟨ret_str (by congr 1 <;> omega), rfl⟩

theorem name_ex (N : ByteArray) (v : Int) (k : Nat) (hv : v = (k : Int)) (hi : k < 12) (hz : 3 * k + 3 ≤ N.size) (l : List UInt8) (hl : (N.extract (3 * k) (3 * k + 3)).data.toList = l) (hn : l.length = 3) : ∃ P : ByteArray, P.data.toList = l ∧ P.size = 3 ∧
    ∀ wx, Calls Tryd.prog 37 #[.string N, .int .i64 v] wx fun e w' => e = .returned (.string P) ∧ wx = w' :=
  ⟨N.extract (3 * k) (3 * k + 3), hl, by rw [ba_len hl, hn], fun wx => by rw [hv]; exact nameAt_any N k wx hi hz⟩

set_option maxHeartbeats 1000000 in
theorem http_any (t : Int) (w : World) (hT : Tab w) :
    Calls Tryd.prog 19 #[.int .i64 t] w fun e w' => e = .returned (.string ⟨(httpL t).toArray⟩) ∧ Below w.heap.size w w' := by
  by_cases ht : timeB t = true
  · obtain ⟨y, m, d, h, i, s, eq, ⟨y0, y1, m0, m1, d0, d1, h0, h1, i0, i1, s0, s1⟩, cc⟩ := civil_ex t ht
    have htb : 0 ≤ t ∧ t ≤ 253402300799 := by simpa [timeB] using ht
    obtain ⟨ht0, ht1⟩ := htb
    obtain ⟨W, eW, zW, cW⟩ := name_ex weekT ((t / 86400 + 3) % 7) ((t / 86400 + 3) % 7).toNat (by omega) (by omega) (by show _ ≤ 21; omega) (wdL ((t / 86400 + 3) % 7).toNat) rfl (wd_len _ (by omega))
    obtain ⟨N, eN, zN, cN⟩ := name_ex monthT (m - 1) (m - 1).toNat (by omega) (by omega) (by show _ ≤ 36; omega) (monL (m - 1).toNat) rfl (mon_len _ (by omega))
    obtain ⟨Y, eY, zY, cY⟩ := part4 y (by omega) (by omega)
    obtain ⟨D, eD, zD, cD⟩ := part2 d (by omega) (by omega)
    obtain ⟨K, eK, zK, cK⟩ := clock_ex h i s h0 h1 i0 i1 s0 s1
    obtain ⟨X1, e1, z1, f1⟩ := cat_ex W ⟨#[44, 32]⟩ (by rw [zW]; decide)
    obtain ⟨X2, e2, z2, f2⟩ := cat_ex X1 D (by rw [z1, zW, zD]; decide)
    obtain ⟨X3, e3, z3, f3⟩ := cat_ex X2 ⟨#[32]⟩ (by rw [z2, z1, zW, zD]; decide)
    obtain ⟨X4, e4, z4, f4⟩ := cat_ex X3 N (by rw [z3, z2, z1, zW, zD, zN]; decide)
    obtain ⟨X5, e5, z5, f5⟩ := cat_ex X4 ⟨#[32]⟩ (by rw [z4, z3, z2, z1, zW, zD, zN]; decide)
    obtain ⟨X6, e6, z6, f6⟩ := cat_ex X5 Y (by rw [z5, z4, z3, z2, z1, zW, zD, zN, zY]; decide)
    obtain ⟨X7, e7, z7, f7⟩ := cat_ex X6 ⟨#[32]⟩ (by rw [z6, z5, z4, z3, z2, z1, zW, zD, zN, zY]; decide)
    obtain ⟨X8, e8, z8, f8⟩ := cat_ex X7 K (by rw [z7, z6, z5, z4, z3, z2, z1, zW, zD, zN, zY, zK]; decide)
    obtain ⟨X9, e9, z9, f9⟩ := cat_ex X8 ⟨#[32, 71, 77, 84]⟩ (by rw [z8, z7, z6, z5, z4, z3, z2, z1, zW, zD, zN, zY, zK]; decide)
    have HX : Hid (X9 = ⟨(httpL t).toArray⟩) := ba_of (by
      unfold httpL
      rw [if_pos ht, eq.1, eq.2.1, eq.2.2.1, eq.2.2.2.1, eq.2.2.2.2.1, eq.2.2.2.2.2, e9, e8, e7, e6, e5, e4, e3, e2, e1, eD, eY, eN, eW, eK]; rfl)
    have CC := (show Hid _ from cc)
    have CW := (show Hid _ from cW)
    have CN := (show Hid _ from cN)
    have CY := (show Hid _ from cY)
    have CD := (show Hid _ from cD)
    have CK := (show Hid _ from cK)
    unfold weekT at CW
    unfold monthT at CN
    clear cc cW cN cY cD cK eq eW eN eY eD eK zW zN zY zD zK e1 e2 e3 e4 e5 e6 e7 e8 e9 z1 z2 z3 z4 z5 z6 z7 z8 z9 ht
    go_enter Tryd.func19, Tryd.ntmps19
    go_wp2_with fail
    refine (CC.out _).mono ?_
    rintro e w' ⟨rfl, rfl⟩
    go_wp2_with fail
    refine (CW.out _).mono ?_
    rintro e w' ⟨rfl, rfl⟩
    go_wp2_with fail
    refine (CD.out _).mono ?_
    rintro e w' ⟨rfl, rfl⟩
    go_wp2_with fail
    refine (CN.out _).mono ?_
    rintro e w' ⟨rfl, rfl⟩
    go_wp2_with fail
    refine (CY.out _ hT).mono ?_
    rintro e w1 ⟨rfl, hb1⟩
    go_wp2_with fail
    refine (CK.out _).mono ?_
    rintro e w' ⟨rfl, rfl⟩
    go_wp2
    go_ret
    exact ⟨ret_str HX.out, hb1⟩
  · have ht' : timeB t = false := by simpa using ht
    have HX : Hid (httpL t = []) := by show _ = _; unfold httpL; rw [if_neg ht]
    have CC := (show Hid _ from fun wx => civil_no t wx ht')
    unfold civ0 at CC
    clear ht ht'
    go_enter Tryd.func19, Tryd.ntmps19
    go_wp2_with fail
    refine (CC.out _).mono ?_
    rintro e w' ⟨rfl, rfl⟩
    go_wp2
    go_ret
    exact ⟨ret_str (by rw [HX.out]), Below.refl _ _⟩

end Go.Proofs.YtbemlmhchpinhaaDoor
