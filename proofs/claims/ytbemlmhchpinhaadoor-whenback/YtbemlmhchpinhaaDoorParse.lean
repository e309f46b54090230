/-
  Texts read back: package when's ParseBasic, ParseHttp and ParseDay by their contracts.
-/
import Derived.Test.YtbemlmhchpinhaaDoorNum
import Derived.Test.YtbemlmhchpinhaaDoorRefOfK
namespace Go.Proofs.YtbemlmhchpinhaaDoor
open Go.RowKit

def sub (l : List UInt8) (a b : Nat) : List UInt8 := (l.take b).drop a
theorem sub_data (s : ByteArray) (a b : Nat) : (s.extract a b).data.toList = sub s.data.toList a b := by
  simp [sub, ByteArray.data_extract, List.drop_take, Array.toList_extract]

theorem number_at (s : ByteArray) (a b : Nat) (hab : b ≤ a + 4) : ∃ v : Int, numV (sub s.data.toList a b) = v ∧ 
    ∀ wx, Calls Tryd.prog 38 #[.string (s.extract a b)] wx fun e w' => e = .returned (.int .i64 v) ∧ w' = wx :=
  ⟨_, rfl, fun wx => (number_any (s.extract a b) wx (by simp; omega)).mono fun _ _ h => ⟨by rw [h.1, sub_data], h.2.symm⟩⟩


def tB (x y : List UInt8) (ok : Bool) : Bool := ok && (x == y)
def tN (x y : List UInt8) (ok : Bool) (t : Int) : Int := if tB x y ok then t else 0

theorem toldbasic (s : ByteArray) (t : Int) (ok : Bool) (w : World) (hT : Tab w) :
    Calls Tryd.prog 39 #[.string s, .int .i64 t, .bool ok, .func (.func 13) #[] #[]] w fun e w' => e = .returned (.tuple #[.int .i64 (tN (basicL t) s.data.toList ok t), .bool (tB (basicL t) s.data.toList ok)]) ∧ Below w.heap.size w w' := by
  cases ok with
  | false =>
    go_enter Tryd.func39, Tryd.ntmps39
    go_wp2
    go_ret2
    exact ⟨ret_ib rfl rfl, Below.refl _ _⟩
  | true =>
    obtain ⟨X, eX, cX⟩ : ∃ X : ByteArray, X.data.toList = basicL t ∧ ∀ wx, Tab wx → Calls Tryd.prog 13 #[.int .i64 t] wx fun e w' => e = .returned (.string X) ∧ Below wx.heap.size wx w' :=
      ⟨⟨(basicL t).toArray⟩, by simp, fun wx hx => basic_any t wx hx⟩
    have CX := (show Hid _ from cX)
    have e0 : X.toList = basicL t := by rw [ByteArray.toList_eq, eX]
    have es : s.toList = s.data.toList := ByteArray.toList_eq s
    by_cases he : basicL t = s.data.toList
    · have hq : (!X.toList == s.toList) = false := by rw [e0, es, he]; simp
      have HE : Hid (basicL t = s.data.toList) := he
      clear cX e0 es eX he
      go_enter Tryd.func39, Tryd.ntmps39
      go_wp2_with fail
      refine (CX.out _ hT).mono ?_
      rintro e w1 ⟨rfl, hb1⟩
      go_wp2
      go_ret2
      exact ⟨ret_ib (by simp [tN, tB, HE.out]) (by simp [tB, HE.out]), hb1⟩
    · have hq : (!X.toList == s.toList) = true := by rw [e0, es]; simp [he]
      have HE : Hid ((basicL t == s.data.toList) = false) := by show _ = _; simp [he]
      clear cX e0 es eX he
      go_enter Tryd.func39, Tryd.ntmps39
      go_wp2_with fail
      refine (CX.out _ hT).mono ?_
      rintro e w1 ⟨rfl, hb1⟩
      go_wp2
      go_ret2
      exact ⟨ret_ib (by simp [tN, tB, HE.out]) (by simp [tB, HE.out]), hb1⟩

theorem toldhttp (s : ByteArray) (t : Int) (ok : Bool) (w : World) (hT : Tab w) :
    Calls Tryd.prog 39 #[.string s, .int .i64 t, .bool ok, .func (.func 19) #[] #[]] w fun e w' => e = .returned (.tuple #[.int .i64 (tN (httpL t) s.data.toList ok t), .bool (tB (httpL t) s.data.toList ok)]) ∧ Below w.heap.size w w' := by
  cases ok with
  | false =>
    go_enter Tryd.func39, Tryd.ntmps39
    go_wp2
    go_ret2
    exact ⟨ret_ib rfl rfl, Below.refl _ _⟩
  | true =>
    obtain ⟨X, eX, cX⟩ : ∃ X : ByteArray, X.data.toList = httpL t ∧ ∀ wx, Tab wx → Calls Tryd.prog 19 #[.int .i64 t] wx fun e w' => e = .returned (.string X) ∧ Below wx.heap.size wx w' :=
      ⟨⟨(httpL t).toArray⟩, by simp, fun wx hx => http_any t wx hx⟩
    have CX := (show Hid _ from cX)
    have e0 : X.toList = httpL t := by rw [ByteArray.toList_eq, eX]
    have es : s.toList = s.data.toList := ByteArray.toList_eq s
    by_cases he : httpL t = s.data.toList
    · have hq : (!X.toList == s.toList) = false := by rw [e0, es, he]; simp
      have HE : Hid (httpL t = s.data.toList) := he
      clear cX e0 es eX he
      go_enter Tryd.func39, Tryd.ntmps39
      go_wp2_with fail
      refine (CX.out _ hT).mono ?_
      rintro e w1 ⟨rfl, hb1⟩
      go_wp2
      go_ret2
      exact ⟨ret_ib (by simp [tN, tB, HE.out]) (by simp [tB, HE.out]), hb1⟩
    · have hq : (!X.toList == s.toList) = true := by rw [e0, es]; simp [he]
      have HE : Hid ((httpL t == s.data.toList) = false) := by show _ = _; simp [he]
      clear cX e0 es eX he
      go_enter Tryd.func39, Tryd.ntmps39
      go_wp2_with fail
      refine (CX.out _ hT).mono ?_
      rintro e w1 ⟨rfl, hb1⟩
      go_wp2
      go_ret2
      exact ⟨ret_ib (by simp [tN, tB, HE.out]) (by simp [tB, HE.out]), hb1⟩

/-- What the numbers of a text of 16 bytes tell. -/
def bB (l : List UInt8) : Bool := ofB (numV (sub l 0 4)) (numV (sub l 4 6)) (numV (sub l 6 8)) (numV (sub l 9 11)) (numV (sub l 11 13)) (numV (sub l 13 15))
def bT (l : List UInt8) : Int := ofN (numV (sub l 0 4)) (numV (sub l 4 6)) (numV (sub l 6 8)) (numV (sub l 9 11)) (numV (sub l 11 13)) (numV (sub l 13 15))
noncomputable def pbB (l : List UInt8) : Bool := decide (l.length = 16) && (bB l && (basicL (bT l) == l))
noncomputable def pbN (l : List UInt8) : Int := if pbB l then bT l else 0
/-- What the numbers of a text of 29 bytes tell, with the month m. -/
def hB (l : List UInt8) (m : Int) : Bool := ofB (numV (sub l 12 16)) m (numV (sub l 5 7)) (numV (sub l 17 19)) (numV (sub l 20 22)) (numV (sub l 23 25))
def hT (l : List UInt8) (m : Int) : Int := ofN (numV (sub l 12 16)) m (numV (sub l 5 7)) (numV (sub l 17 19)) (numV (sub l 20 22)) (numV (sub l 23 25))
def hM (l : List UInt8) : Int := (mNam (sub l 8 11) : Int)
noncomputable def hOk (l : List UInt8) (m : Int) : Bool := hB l m && (httpL (hT l m) == l)
noncomputable def phB (l : List UInt8) : Bool := decide (l.length = 29) && hOk l (hM l)
noncomputable def phN (l : List UInt8) : Int := if phB l then hT l (hM l) else 0
def pdB (l : List UInt8) : Bool := decide (l.length = 8) && ofB (numV (sub l 0 4)) (numV (sub l 4 6)) (numV (sub l 6 8)) 0 0 0
def pdN (l : List UInt8) : Int := if pdB l then ofN (numV (sub l 0 4)) (numV (sub l 4 6)) (numV (sub l 6 8)) 0 0 0 else 0

theorem Tab.drewN {w : World} (h : Tab w) (n : Nat) : Tab (w.drewN n) := h.below (below_drewN (Below.refl _ _) n)
theorem drewN_size (w : World) (n : Nat) : (w.drewN n).heap.size = w.heap.size := rfl

set_option maxHeartbeats 1000000 in
theorem parseBasic_any (s : ByteArray) (w : World) (hTab : Tab w) :
    Calls Tryd.prog 21 #[.string s] w fun e w' => e = .returned (.tuple #[.int .i64 (pbN s.data.toList), .bool (pbB s.data.toList)]) ∧ Below w.heap.size w w' := by
  have hL : s.data.toList.length = s.size := by simp
  by_cases hs : s.size = 16
  · obtain ⟨y, ey, cy⟩ := number_at s 0 4 (by omega)
    obtain ⟨m, em, cm⟩ := number_at s 4 6 (by omega)
    obtain ⟨d, ed, cd⟩ := number_at s 6 8 (by omega)
    obtain ⟨h, eh, ch⟩ := number_at s 9 11 (by omega)
    obtain ⟨i, ei, ci⟩ := number_at s 11 13 (by omega)
    obtain ⟨x, ex, cx⟩ := number_at s 13 15 (by omega)
    have CY := (show Hid _ from cy)
    have CM := (show Hid _ from cm)
    have CD := (show Hid _ from cd)
    have CH := (show Hid _ from ch)
    have CI := (show Hid _ from ci)
    have CX := (show Hid _ from cx)
    have E1 : Hid (bB s.data.toList = ofB y m d h i x ∧ bT s.data.toList = ofN y m d h i x) := by show _ ∧ _; unfold bB bT; rw [ey, em, ed, eh, ei, ex]; exact ⟨rfl, rfl⟩
    have E2 : Hid (pbB s.data.toList = (bB s.data.toList && (basicL (bT s.data.toList) == s.data.toList))) := by show _ = _; unfold pbB; rw [hL, hs]; rfl
    have CO : Hid (∀ wx, Calls Tryd.prog 11 #[.int .i64 y, .int .i64 m, .int .i64 d, .int .i64 h, .int .i64 i, .int .i64 x] wx fun e w' => e = .returned (.tuple #[.int .i64 (ofN y m d h i x), .bool (ofB y m d h i x)]) ∧ w' = wx) := fun wx => (of_any y m d h i x wx).mono fun _ _ h => ⟨h.1, h.2.symm⟩
    have hz : ((s.size : Int) == 16) = true := by rw [hs]; rfl
    have h16 : (16 : Int) ≤ (s.size : Int) := by omega
    clear cy cm cd ch ci cx ey em ed eh ei ex hs hL
    go_enter Tryd.func21, Tryd.ntmps21
    go_wp2_with fail
    go_quiet (first
      | (go_at_call 38; with_reducible exact Calls.quiet_of_same (CY.out _))
      | (go_at_call 38; with_reducible exact Calls.quiet_of_same (CM.out _))
      | (go_at_call 38; with_reducible exact Calls.quiet_of_same (CD.out _))
      | (go_at_call 38; with_reducible exact Calls.quiet_of_same (CH.out _))
      | (go_at_call 38; with_reducible exact Calls.quiet_of_same (CI.out _))
      | (go_at_call 38; with_reducible exact Calls.quiet_of_same (CX.out _))
      | (go_at_call 11; with_reducible exact Calls.quiet_of_same (CO.out _)))
    go_wp2_with fail
    refine (toldbasic s (ofN y m d h i x) (ofB y m d h i x) _ (hTab.drewN _)).mono ?_
    rintro e w1 ⟨rfl, hb1⟩
    go_wp2
    go_ret2
    refine ⟨ret_ib ?_ ?_, ?_⟩
    · unfold pbN; rw [E2.out, E1.out.1, E1.out.2]; rfl
    · rw [E2.out, E1.out.1, E1.out.2]; rfl
    · exact step_below (below_drewN (Below.refl _ _) _) hb1 (Nat.le_refl _)
  · have E2 : Hid (pbB s.data.toList = false) := by show _ = _; unfold pbB; rw [hL]; simp [hs]
    have E3 : Hid (pbN s.data.toList = 0) := by show _ = _; unfold pbN; rw [E2.out]; rfl
    have hz : ((s.size : Int) == 16) = false := by rw [beq_eq_false_iff_ne]; omega
    clear hs hL
    go_enter Tryd.func21, Tryd.ntmps21
    go_wp2
    go_ret2
    exact ⟨ret_ib E3.out.symm E2.out.symm, Below.refl _ _⟩

set_option maxHeartbeats 1000000 in
theorem parseHttp_any (s : ByteArray) (w : World) (hTab : Tab w) :
    Calls Tryd.prog 23 #[.string s] w fun e w' => e = .returned (.tuple #[.int .i64 (phN s.data.toList), .bool (phB s.data.toList)]) ∧ Below w.heap.size w w' := by
  have hL : s.data.toList.length = s.size := by simp
  by_cases hs : s.size = 29
  · obtain ⟨y, ey, cy⟩ := number_at s 12 16 (by omega)
    obtain ⟨d, ed, cd⟩ := number_at s 5 7 (by omega)
    obtain ⟨h, eh, ch⟩ := number_at s 17 19 (by omega)
    obtain ⟨i, ei, ci⟩ := number_at s 20 22 (by omega)
    obtain ⟨x, ex, cx⟩ := number_at s 23 25 (by omega)
    obtain ⟨m, em, cm⟩ : ∃ v : Int, hM s.data.toList = v ∧ ∀ wx, Calls Tryd.prog 41 #[.string (s.extract 8 11)] wx fun e w' => e = .returned (.int .i64 v) ∧ w' = wx :=
      ⟨_, rfl, fun wx => (monthNamed_any (s.extract 8 11) wx).mono fun _ _ h => ⟨by rw [h.1, sub_data]; rfl, h.2.symm⟩⟩
    have CY := (show Hid _ from cy)
    have CM := (show Hid _ from cm)
    have CD := (show Hid _ from cd)
    have CH := (show Hid _ from ch)
    have CI := (show Hid _ from ci)
    have CX := (show Hid _ from cx)
    have E1 : Hid (hB s.data.toList (hM s.data.toList) = ofB y m d h i x ∧ hT s.data.toList (hM s.data.toList) = ofN y m d h i x) := by show _ ∧ _; unfold hB hT; rw [ey, em, ed, eh, ei, ex]; exact ⟨rfl, rfl⟩
    have E2 : Hid (phB s.data.toList = (hB s.data.toList (hM s.data.toList) && (httpL (hT s.data.toList (hM s.data.toList)) == s.data.toList))) := by show _ = _; unfold phB hOk; rw [hL, hs]; rfl
    have CO : Hid (∀ wx, Calls Tryd.prog 11 #[.int .i64 y, .int .i64 m, .int .i64 d, .int .i64 h, .int .i64 i, .int .i64 x] wx fun e w' => e = .returned (.tuple #[.int .i64 (ofN y m d h i x), .bool (ofB y m d h i x)]) ∧ w' = wx) := fun wx => (of_any y m d h i x wx).mono fun _ _ h => ⟨h.1, h.2.symm⟩
    have hz : ((s.size : Int) == 29) = true := by rw [hs]; rfl
    have h16 : (29 : Int) ≤ (s.size : Int) := by omega
    clear cy cm cd ch ci cx ey em ed eh ei ex hs hL
    go_enter Tryd.func23, Tryd.ntmps23
    go_wp2_with fail
    go_quiet (first
      | (go_at_call 38; with_reducible exact Calls.quiet_of_same (CY.out _))
      | (go_at_call 41; with_reducible exact Calls.quiet_of_same (CM.out _))
      | (go_at_call 38; with_reducible exact Calls.quiet_of_same (CD.out _))
      | (go_at_call 38; with_reducible exact Calls.quiet_of_same (CH.out _))
      | (go_at_call 38; with_reducible exact Calls.quiet_of_same (CI.out _))
      | (go_at_call 38; with_reducible exact Calls.quiet_of_same (CX.out _))
      | (go_at_call 11; with_reducible exact Calls.quiet_of_same (CO.out _)))
    go_wp2_with fail
    refine (toldhttp s (ofN y m d h i x) (ofB y m d h i x) _ (hTab.drewN _)).mono ?_
    rintro e w1 ⟨rfl, hb1⟩
    go_wp2
    go_ret2
    refine ⟨ret_ib ?_ ?_, ?_⟩
    · unfold phN; rw [E2.out, E1.out.1, E1.out.2]; rfl
    · rw [E2.out, E1.out.1, E1.out.2]; rfl
    · exact step_below (below_drewN (Below.refl _ _) _) hb1 (Nat.le_refl _)
  · have E2 : Hid (phB s.data.toList = false) := by show _ = _; unfold phB; rw [hL]; simp [hs]
    have E3 : Hid (phN s.data.toList = 0) := by show _ = _; unfold phN; rw [E2.out]; rfl
    have hz : ((s.size : Int) == 29) = false := by rw [beq_eq_false_iff_ne]; omega
    clear hs hL
    go_enter Tryd.func23, Tryd.ntmps23
    go_wp2
    go_ret2
    exact ⟨ret_ib E3.out.symm E2.out.symm, Below.refl _ _⟩

set_option maxHeartbeats 1000000 in
theorem parseDay_any (s : ByteArray) (w : World) :
    Calls Tryd.prog 25 #[.string s] w fun e w' => e = .returned (.tuple #[.int .i64 (pdN s.data.toList), .bool (pdB s.data.toList)]) ∧ Below w.heap.size w w' := by
  have hL : s.data.toList.length = s.size := by simp
  by_cases hs : s.size = 8
  · obtain ⟨y, ey, cy⟩ := number_at s 0 4 (by omega)
    obtain ⟨m, em, cm⟩ := number_at s 4 6 (by omega)
    obtain ⟨d, ed, cd⟩ := number_at s 6 8 (by omega)
    have CY := (show Hid _ from cy)
    have CM := (show Hid _ from cm)
    have CD := (show Hid _ from cd)
    have E2 : Hid (pdB s.data.toList = ofB y m d 0 0 0) := by show _ = _; unfold pdB; rw [hL, hs, ey, em, ed]; rfl
    have E3 : Hid (pdN s.data.toList = ofN y m d 0 0 0) := by
      show _ = _
      unfold pdN
      rw [E2.out, ey, em, ed]
      unfold ofN
      split <;> rfl
    have CO : Hid (∀ wx, Calls Tryd.prog 11 #[.int .i64 y, .int .i64 m, .int .i64 d, .int .i64 0, .int .i64 0, .int .i64 0] wx fun e w' => e = .returned (.tuple #[.int .i64 (ofN y m d 0 0 0), .bool (ofB y m d 0 0 0)]) ∧ w' = wx) := fun wx => (of_any y m d 0 0 0 wx).mono fun _ _ h => ⟨h.1, h.2.symm⟩
    have hz : ((s.size : Int) == 8) = true := by rw [hs]; rfl
    have h16 : s.size = 8 := hs
    clear cy cm cd ey em ed hs hL
    go_enter Tryd.func25, Tryd.ntmps25
    go_wp2_with fail
    go_quiet (first
      | (go_at_call 38; with_reducible exact Calls.quiet_of_same (CY.out _))
      | (go_at_call 38; with_reducible exact Calls.quiet_of_same (CM.out _))
      | (go_at_call 38; with_reducible exact Calls.quiet_of_same (CD.out _))
      | (go_at_call 11; with_reducible exact Calls.quiet_of_same (CO.out _)))
    go_wp2
    go_ret2
    exact ⟨ret_ib E3.out.symm E2.out.symm, below_drewN (Below.refl _ _) _⟩
  · have E2 : Hid (pdB s.data.toList = false) := by show _ = _; unfold pdB; rw [hL]; simp [hs]
    have E3 : Hid (pdN s.data.toList = 0) := by show _ = _; unfold pdN; rw [E2.out]; rfl
    have hz : ((s.size : Int) == 8) = false := by rw [beq_eq_false_iff_ne]; omega
    clear hs hL
    go_enter Tryd.func25, Tryd.ntmps25
    go_wp2
    go_ret2
    exact ⟨ret_ib E3.out.symm E2.out.symm, Below.refl _ _⟩
end Go.Proofs.YtbemlmhchpinhaaDoor
