/-
  Contracts of package when: a day's date, a date's day, Civil and Of.
-/
import Derived.Test.YtbemlmhchpinhaaDoorDays
import Derived.OwnWalk
namespace Go.Proofs.YtbemlmhchpinhaaDoor
open Go.RowKit

def dateB (y m d : Int) : Bool := decide (1970 ≤ y ∧ y ≤ 9999 ∧ 1 ≤ d ∧ d ≤ mlen y m)
def clockB (h i s : Int) : Bool := decide (0 ≤ h ∧ h < 24 ∧ 0 ≤ i ∧ i < 60 ∧ 0 ≤ s ∧ s < 60)
def ofB (y m d h i s : Int) : Bool := dateB y m d && clockB h i s
def dayN (y m d : Int) : Int := ahead y + cum y m + d - 1
def ofN (y m d h i s : Int) : Int := if ofB y m d h i s then dayN y m d * 86400 + h * 3600 + i * 60 + s else 0
def timeB (t : Int) : Bool := decide (0 ≤ t ∧ t ≤ 253402300799)
def hO (t : Int) : Int := t % 86400 / 3600
def iO (t : Int) : Int := t % 3600 / 60
def sO (t : Int) : Int := t % 60

theorem dateB_day {y m d : Int} (h : dateB y m d = true) : IsDay (dayN y m d) y m d ∧ y ≤ 9999 := by
  simp only [dateB, decide_eq_true_eq] at h
  obtain ⟨a, b, c, e⟩ := h
  have hm : 1 ≤ m ∧ m ≤ 12 := by
    by_cases x : 1 ≤ m ∧ m ≤ 12
    · exact x
    · rw [mlen_out y (by omega)] at e; omega
  exact ⟨⟨a, hm.1, hm.2, c, e, rfl⟩, b⟩
theorem dayN_bd {y m d : Int} (h : dateB y m d = true) : 0 ≤ dayN y m d ∧ dayN y m d ≤ 2932896 :=
  day_le (dateB_day h).1 (dateB_day h).2

theorem isDate_any (y m d : Int) (w : World) :
    Calls Tryd.prog 31 #[.int .i64 y, .int .i64 m, .int .i64 d] w fun e w' => e = .returned (.bool (dateB y m d)) ∧ w = w' := by
  by_cases a : 1970 ≤ y
  · by_cases b : y ≤ 9999
    · by_cases c : 1 ≤ d
      · have hb := mlen_bd y m
        go_enter Tryd.func31, Tryd.ntmps31
        go_wp2_with fail
        refine (monthLength_any y m _ (by omega) (by omega)).mono ?_
        rintro e w' ⟨rfl, rfl⟩
        go_wp2
        go_ret
        exact ⟨ret_bool (by rw [Bool.eq_iff_iff]; simp [dateB]; omega), rfl⟩
      · go_enter Tryd.func31, Tryd.ntmps31
        go_wp2
        go_ret
        exact ⟨ret_bool (by rw [Bool.eq_iff_iff]; simp [dateB]; omega), rfl⟩
    · go_enter Tryd.func31, Tryd.ntmps31
      go_wp2
      go_ret
      exact ⟨ret_bool (by rw [Bool.eq_iff_iff]; simp [dateB]; omega), rfl⟩
  · go_enter Tryd.func31, Tryd.ntmps31
    go_wp2
    go_ret
    exact ⟨ret_bool (by rw [Bool.eq_iff_iff]; simp [dateB]; omega), rfl⟩

theorem dayOf_any (y m d : Int) (w : World) (h : dateB y m d = true) :
    Calls Tryd.prog 33 #[.int .i64 y, .int .i64 m, .int .i64 d] w fun e w' => e = .returned (.int .i64 (dayN y m d)) ∧ w = w' := by
  obtain ⟨⟨hy, hm1, hm2, hd1, hd2, _⟩, hy2⟩ := dateB_day h
  have hL := ahead_low hy
  have hH := ahead_high hy
  have hd31 := (mlen_bd y m).2
  have HM : Hid (d ≤ mlen y m) := hd2
  have hd3 : d ≤ 31 := by omega
  clear h hd2 hd31
  go_enter Tryd.func33, Tryd.ntmps33
  go_wp2_with fail
  refine (daysAhead_any y _ (by omega) (by omega)).mono ?_
  rintro e w' ⟨rfl, rfl⟩
  go_wp2_with fail
  go_loop [7, 8] (fun n k => ∃ j : Int, 1 ≤ j ∧ j ≤ m ∧ k = .int .i64 j ∧ n = .int .i64 (dayN y j d)) (fun _ k => (m - intOf k).toNat)
  case atStart => exact ⟨1, by omega, by omega, rfl, congrArg (Value.int .i64) (by unfold dayN; rw [cum_1]; omega)⟩
  case round =>
    obtain ⟨j, hj1, hj2, rfl, rfl⟩ := hrel
    have hc := cum_bd y (m := j) (by omega) (by omega)
    have hl := lday_01 y
    have hyl : ylen y ≤ 366 := by unfold ylen; omega
    have hml := (mlen_bd y j).1
    have hb : 0 ≤ dayN y j d ∧ dayN y j d ≤ 100000000 := by unfold dayN; omega
    clear hml
    by_cases hlt : j < m
    · have HS : Hid (dayN y (j + 1) d = dayN y j d + mlen y j) := by show _ = _; unfold dayN; rw [cum_succ y (by omega) (by omega)]; omega
      have hmb := mlen_bd y j
      clear hc hl hyl
      go_wp2_with fail
      refine (monthLength_any y j _ (by omega) (by omega)).mono ?_
      rintro e w' ⟨rfl, rfl⟩
      go_wp2
      go_round
      case rel => exact ⟨j + 1, by omega, by omega, by go_num, by rw [HS.out]⟩
      case measure => simp [intOf]; omega
    · have e : j = m := by omega
      subst e
      go_wp2
      go_ret
      exact ⟨rfl, rfl⟩

theorem dateOf_any (n : Int) (w : World) (h0 : 0 ≤ n) (h1 : n ≤ 2932896) :
    Calls Tryd.prog 28 #[.int .i64 n] w fun e w' => e = .returned (.tuple #[.int .i64 (yO n), .int .i64 (mO n), .int .i64 (dO n)]) ∧ w = w' := by
  have hd : Hid (∀ y m d, IsDay n y m d → yO n = y ∧ mO n = m ∧ dO n = d) := fun y m d => O_of
  have e1 : ahead (1970 + n / 365) ≤ 10000000 ∧ n < ahead (1970 + n / 365) + ylen (1970 + n / 365) := by
    have a := ahead_high (y := 1970 + n / 365) (by omega)
    have b := ahead_low (y := 1970 + n / 365) (by omega)
    have c := lday_01 (1970 + n / 365)
    unfold ylen
    omega
  have E1 : Hid (n < ahead (1970 + n / 365) + ylen (1970 + n / 365)) := e1.2
  clear e1
  go_enter Tryd.func28, Tryd.ntmps28
  go_wp2
  go_loop [2] (fun a => ∃ y : Int, 1970 ≤ y ∧ y ≤ 1970 + n / 365 ∧ a = .int .i64 y ∧ n < ahead y + ylen y) (fun a => (intOf a).toNat)
  case atStart => exact ⟨1970 + n / 365, by omega, by omega, by go_num, E1.out⟩
  case round =>
    clear E1
    obtain ⟨y, hy1, hy2, rfl, hy3⟩ := hrel
    have a := ahead_high hy1
    have b := ahead_low hy1
    by_cases hlt : ahead y > n
    · have HY : Hid (1970 ≤ y - 1 ∧ n < ahead (y - 1) + ylen (y - 1)) := by
        show _ ∧ _
        have : ahead (y - 1) + ylen (y - 1) = ahead y := by rw [← ahead_succ]; congr 1; omega
        refine ⟨?_, by omega⟩
        by_cases e : y = 1970
        · subst e; rw [ahead_1970] at hlt; omega
        · omega
      clear hy3
      go_wp2_with fail
      refine (daysAhead_any y _ (by omega) (by omega)).mono ?_
      rintro e w' ⟨rfl, rfl⟩
      go_wp2
      go_round
      case rel => exact ⟨y - 1, HY.out.1, by omega, by go_num, HY.out.2⟩
      case measure => simp [intOf]; omega
    · have HY : Hid (n - ahead y < cum y 13) := by show _ < _; rw [cum_13]; omega
      clear hy3
      go_wp2_with fail
      refine (daysAhead_any y _ (by omega) (by omega)).mono ?_
      rintro e w' ⟨rfl, rfl⟩
      go_wp2_with fail
      refine (daysAhead_any y _ (by omega) (by omega)).mono ?_
      rintro e w' ⟨rfl, rfl⟩
      go_wp2_with fail
      go_loop [0, 3] (fun a c => ∃ x m : Int, 1 ≤ m ∧ m ≤ 12 ∧ 0 ≤ x ∧ x ≤ 10000000 ∧ a = .int .i64 x ∧ c = .int .i64 m ∧ n = ahead y + cum y m + x) (fun a _ => (intOf a).toNat)
      case atStart => exact ⟨n - ahead y, 1, by omega, by omega, by omega, by omega, by go_num, rfl, by rw [cum_1]; omega⟩
      case round =>
        obtain ⟨x, m, hm1, hm2, hx0, hx1, rfl, rfl, hn⟩ := hrel
        have HN : Hid (n = ahead y + cum y m + x) := hn
        have hml := mlen_bd y m
        have hm28 := mlen_28 y hm1 hm2
        clear hn
        by_cases hge : mlen y m ≤ x
        · have HS : Hid (m + 1 ≤ 12 ∧ n = ahead y + cum y (m + 1) + (x - mlen y m)) := by
            show _ ∧ _
            have hn := HN.out
            have hy := HY.out
            have hcs := cum_succ y hm1 hm2
            refine ⟨?_, by omega⟩
            by_cases e : m = 12
            · subst e
              have e13 : cum y (12 + 1) = cum y 13 := rfl
              omega
            · omega
          go_wp2_with fail
          refine (monthLength_any y m _ (by omega) (by omega)).mono ?_
          rintro e w' ⟨rfl, rfl⟩
          go_wp2_with fail
          refine (monthLength_any y m _ (by omega) (by omega)).mono ?_
          rintro e w' ⟨rfl, rfl⟩
          go_wp2
          go_round
          case rel => exact ⟨x - mlen y m, m + 1, by omega, HS.out.1, by omega, by omega, by go_num, by go_num, HS.out.2⟩
          case measure => simp [intOf]; omega
        · have HS : Hid (yO n = y ∧ mO n = m ∧ dO n = x + 1) := hd.out y m (x + 1) ⟨hy1, hm1, hm2, by omega, by omega, by have := HN.out; omega⟩
          clear hd HN
          go_wp2_with fail
          refine (monthLength_any y m _ (by omega) (by omega)).mono ?_
          rintro e w' ⟨rfl, rfl⟩
          go_wp2
          go_ret3
          exact ⟨ret_iii HS.out.1.symm HS.out.2.1.symm HS.out.2.2.symm, rfl⟩

theorem results_tmp7 {fn : Func} {a b c d e f g : Tmp} (h : fn.results = #[.tmp a, .tmp b, .tmp c, .tmp d, .tmp e, .tmp f, .tmp g]) (tmps : Array Value) (P : Program) (w : World) :
    (results fn tmps).run P w = .ok (.tuple #[tmps.getD a undef, tmps.getD b undef, tmps.getD c undef, tmps.getD d undef, tmps.getD e undef, tmps.getD f undef, tmps.getD g undef]) w := by
  simp [results, h]
theorem ret_7 {a b c d e f a' b' c' d' e' f' : Int} {p q : Bool} (h1 : a = a') (h2 : b = b') (h3 : c = c') (h4 : d = d') (h5 : e = e') (h6 : f = f') (h7 : p = q) :
    Ending.returned (.tuple #[.int .i64 a, .int .i64 b, .int .i64 c, .int .i64 d, .int .i64 e, .int .i64 f, .bool p]) = .returned (.tuple #[.int .i64 a', .int .i64 b', .int .i64 c', .int .i64 d', .int .i64 e', .int .i64 f', .bool q]) := by
  rw [h1, h2, h3, h4, h5, h6, h7]

/-- What Civil tells of a time. -/
noncomputable def civT (t : Int) : Value := .tuple #[.int .i64 (yO (t / 86400)), .int .i64 (mO (t / 86400)), .int .i64 (dO (t / 86400)), .int .i64 (hO t), .int .i64 (iO t), .int .i64 (sO t), .bool true]
def civ0 : Value := .tuple #[.int .i64 0, .int .i64 0, .int .i64 0, .int .i64 0, .int .i64 0, .int .i64 0, .bool false]

theorem civil_no (t : Int) (w : World) (h : timeB t = false) :
    Calls Tryd.prog 9 #[.int .i64 t] w fun e w' => e = .returned civ0 ∧ w = w' := by
  go_enter Tryd.func9, Tryd.ntmps9
  go_wp2_with fail
  refine (isTime_any t _).mono ?_
  rintro e w' ⟨rfl, rfl⟩
  have h' : decide (0 ≤ t ∧ t ≤ 253402300799) = false := h
  rw [h']
  clear h h'
  go_wp2
  (try simp only [Exit.inBlock, Exit.then]); refine bodyPost_ret (results_tmp7 rfl _ _ _) rfl ?_
  exact ⟨rfl, rfl⟩

theorem civil_yes (t : Int) (w : World) (h : timeB t = true) :
    Calls Tryd.prog 9 #[.int .i64 t] w fun e w' => e = .returned (civT t) ∧ w = w' := by
  have ht : 0 ≤ t ∧ t ≤ 253402300799 := by simpa [timeB] using h
  obtain ⟨ht0, ht1⟩ := ht
  go_enter Tryd.func9, Tryd.ntmps9
  go_wp2_with fail
  refine (isTime_any t _).mono ?_
  rintro e w' ⟨rfl, rfl⟩
  have h' : decide (0 ≤ t ∧ t ≤ 253402300799) = true := h
  rw [h']
  clear h h'
  go_wp2_with fail
  refine (dateOf_any (t / 86400) _ (by omega) (by omega)).mono ?_
  rintro e w' ⟨rfl, rfl⟩
  go_wp2
  (try simp only [Exit.inBlock, Exit.then]); refine bodyPost_ret (results_tmp7 rfl _ _ _) rfl ?_
  exact ⟨ret_7 rfl rfl rfl (by unfold hO; go_num) (by unfold iO; omega) (by unfold sO; omega) rfl, rfl⟩

theorem of_any (y m d h i s : Int) (w : World) :
    Calls Tryd.prog 11 #[.int .i64 y, .int .i64 m, .int .i64 d, .int .i64 h, .int .i64 i, .int .i64 s] w fun e w' => e = .returned (.tuple #[.int .i64 (ofN y m d h i s), .bool (ofB y m d h i s)]) ∧ w = w' := by
  by_cases a : dateB y m d = true
  · by_cases b : clockB h i s = true
    · have hb := dayN_bd a
      have hc : 0 ≤ h ∧ h < 24 ∧ 0 ≤ i ∧ i < 60 ∧ 0 ≤ s ∧ s < 60 := by simpa [clockB] using b
      have e1 : Hid (ofB y m d h i s = true) := by show _ = _; simp [ofB, a, b]
      have e2 : Hid (ofN y m d h i s = dayN y m d * 86400 + h * 3600 + i * 60 + s) := by show _ = _; unfold ofN; rw [if_pos e1.out]
      obtain ⟨c1, c2, c3, c4, c5, c6⟩ := hc
      have A : Hid (dateB y m d = true) := a
      go_enter Tryd.func11, Tryd.ntmps11
      go_wp2_with fail
      refine (isDate_any y m d _).mono ?_
      rintro e w' ⟨rfl, rfl⟩
      rw [a]
      clear a
      go_wp2_with fail
      refine (isClock_any h i s _).mono ?_
      rintro e w' ⟨rfl, rfl⟩
      have b' : decide (0 ≤ h ∧ h < 24 ∧ 0 ≤ i ∧ i < 60 ∧ 0 ≤ s ∧ s < 60) = true := b
      rw [b']
      clear b b'
      go_wp2_with fail
      refine (dayOf_any y m d _ A.out).mono ?_
      rintro e w' ⟨rfl, rfl⟩
      go_wp2
      go_ret2
      exact ⟨ret_ib e2.out.symm e1.out.symm, rfl⟩
    · have b1 : clockB h i s = false := by simpa using b
      have e1 : Hid (ofB y m d h i s = false) := by show _ = _; simp [ofB, b1]
      have e2 : Hid (ofN y m d h i s = 0) := by show _ = _; unfold ofN; rw [e1.out]; rfl
      go_enter Tryd.func11, Tryd.ntmps11
      go_wp2_with fail
      refine (isDate_any y m d _).mono ?_
      rintro e w' ⟨rfl, rfl⟩
      rw [a]
      clear a
      go_wp2_with fail
      refine (isClock_any h i s _).mono ?_
      rintro e w' ⟨rfl, rfl⟩
      have b' : decide (0 ≤ h ∧ h < 24 ∧ 0 ≤ i ∧ i < 60 ∧ 0 ≤ s ∧ s < 60) = false := b1
      rw [b']
      clear b b' b1
      go_wp2
      go_ret2
      exact ⟨ret_ib e2.out.symm e1.out.symm, rfl⟩
  · have a1 : dateB y m d = false := by simpa using a
    have e1 : Hid (ofB y m d h i s = false) := by show _ = _; simp [ofB, a1]
    have e2 : Hid (ofN y m d h i s = 0) := by show _ = _; unfold ofN; rw [e1.out]; rfl
    go_enter Tryd.func11, Tryd.ntmps11
    go_wp2_with fail
    refine (isDate_any y m d _).mono ?_
    rintro e w' ⟨rfl, rfl⟩
    rw [a1]
    clear a a1
    go_wp2
    go_ret2
    exact ⟨ret_ib e2.out.symm e1.out.symm, rfl⟩
end Go.Proofs.YtbemlmhchpinhaaDoor
