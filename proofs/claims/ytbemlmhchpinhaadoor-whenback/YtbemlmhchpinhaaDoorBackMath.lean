/-
  Dates there and back, and the order of their texts, as plain mathematics.
-/
import Derived.Test.YtbemlmhchpinhaaDoorParseMath
namespace Go.Proofs.YtbemlmhchpinhaaDoor
open Go.Op (bytesLess)

theorem basicL_yes {t : Int} (ht : timeB t = true) : basicL t = txBasic (yO (t / 86400)) (mO (t / 86400)) (dO (t / 86400)) (hO t) (iO t) (sO t) := by unfold basicL; rw [if_pos ht]
theorem isoL_yes {t : Int} (ht : timeB t = true) : isoL t = txIso (yO (t / 86400)) (mO (t / 86400)) (dO (t / 86400)) (hO t) (iO t) (sO t) := by unfold isoL; rw [if_pos ht]
theorem dayL_yes {t : Int} (ht : timeB t = true) : dayL t = txDay (yO (t / 86400)) (mO (t / 86400)) (dO (t / 86400)) := by unfold dayL; rw [if_pos ht]
theorem httpL_yes {t : Int} (ht : timeB t = true) : httpL t = txHttp ((t / 86400 + 3) % 7).toNat (yO (t / 86400)) (mO (t / 86400)) (dO (t / 86400)) (hO t) (iO t) (sO t) := by unfold httpL; rw [if_pos ht]

theorem back_basic {t : Int} (ht : timeB t = true) : pbB (basicL t) = true ∧ pbN (basicL t) = t := by
  obtain ⟨⟨b1, b2, b3, b4, b5, b6⟩, b7, b8, b9, b10, b11, b12⟩ := parts_bd ht
  obtain ⟨o1, o2⟩ := of_back ht
  have e := basicL_yes ht
  have s : ∀ y m d h i s : Int, sub (txBasic y m d h i s) 0 4 = p4 y ∧ sub (txBasic y m d h i s) 4 6 = p2 m ∧ sub (txBasic y m d h i s) 6 8 = p2 d ∧ sub (txBasic y m d h i s) 9 11 = p2 h ∧ sub (txBasic y m d h i s) 11 13 = p2 i ∧ sub (txBasic y m d h i s) 13 15 = p2 s ∧ (txBasic y m d h i s).length = 16 :=
    fun _ _ _ _ _ _ => ⟨rfl, rfl, rfl, rfl, rfl, rfl, rfl⟩
  obtain ⟨s1, s2, s3, s4, s5, s6, s7⟩ := s (yO (t / 86400)) (mO (t / 86400)) (dO (t / 86400)) (hO t) (iO t) (sO t)
  have hB : bB (basicL t) = true := by
    unfold bB
    rw [e, s1, s2, s3, s4, s5, s6, numV_p4 (by omega) (by omega), numV_p2 (by omega) (by omega), numV_p2 (by omega) (by omega), numV_p2 (by omega) (by omega), numV_p2 (by omega) (by omega), numV_p2 (by omega) (by omega)]
    exact o1
  have hT : bT (basicL t) = t := by
    unfold bT
    rw [e, s1, s2, s3, s4, s5, s6, numV_p4 (by omega) (by omega), numV_p2 (by omega) (by omega), numV_p2 (by omega) (by omega), numV_p2 (by omega) (by omega), numV_p2 (by omega) (by omega), numV_p2 (by omega) (by omega)]
    exact o2
  have hp : pbB (basicL t) = true := by
    unfold pbB
    rw [hB, hT]
    have : (basicL t).length = 16 := by rw [e, s7]
    simp [this]
  exact ⟨hp, by unfold pbN; rw [if_pos hp, hT]⟩

theorem sub_https {k : Nat} (hk : k < 7) {y m d h i s : Int} (hm : 1 ≤ m ∧ m ≤ 12) : sub (txHttp k y m d h i s) 12 16 = p4 y ∧ sub (txHttp k y m d h i s) 5 7 = p2 d ∧ sub (txHttp k y m d h i s) 17 19 = p2 h ∧ sub (txHttp k y m d h i s) 20 22 = p2 i ∧ sub (txHttp k y m d h i s) 23 25 = p2 s ∧ (txHttp k y m d h i s).length = 29 ∧ sub (txHttp k y m d h i s) 0 3 = wdL k := by
  have h1 := wd_len k hk
  have h2 := mon_len (m - 1).toNat (by omega)
  unfold txHttp
  generalize wdL k = A at *
  generalize monL (m - 1).toNat = B at *
  match A, h1, B, h2 with
  | [a, b, c], _, [e, f, g], _ => exact ⟨rfl, rfl, rfl, rfl, rfl, rfl, rfl⟩
theorem back_http {t : Int} (ht : timeB t = true) : phB (httpL t) = true ∧ phN (httpL t) = t := by
  obtain ⟨⟨b1, b2, b3, b4, b5, b6⟩, b7, b8, b9, b10, b11, b12⟩ := parts_bd ht
  obtain ⟨o1, o2⟩ := of_back ht
  have e := httpL_yes ht
  have hk : ((t / 86400 + 3) % 7).toNat < 7 := by omega
  obtain ⟨s1, s3, s4, s5, s6, s7, _⟩ := sub_https hk (y := yO (t / 86400)) (m := mO (t / 86400)) (d := dO (t / 86400)) (h := hO t) (i := iO t) (s := sO t) ⟨b3, b4⟩
  have s2 := sub_http hk (y := yO (t / 86400)) (m := mO (t / 86400)) (d := dO (t / 86400)) (h := hO t) (i := iO t) (s := sO t) ⟨b3, b4⟩
  have hm : hM (httpL t) = mO (t / 86400) := by
    unfold hM
    rw [e, s2, mNam_at (i := (mO (t / 86400) - 1).toNat) (by omega) rfl]
    omega
  have hB' : hB (httpL t) (hM (httpL t)) = true := by
    rw [hm]
    unfold hB
    rw [e, s1, s3, s4, s5, s6, numV_p4 (by omega) (by omega), numV_p2 (by omega) (by omega), numV_p2 (by omega) (by omega), numV_p2 (by omega) (by omega), numV_p2 (by omega) (by omega)]
    exact o1
  have hT' : hT (httpL t) (hM (httpL t)) = t := by
    rw [hm]
    unfold hT
    rw [e, s1, s3, s4, s5, s6, numV_p4 (by omega) (by omega), numV_p2 (by omega) (by omega), numV_p2 (by omega) (by omega), numV_p2 (by omega) (by omega), numV_p2 (by omega) (by omega)]
    exact o2
  have hp : phB (httpL t) = true := by
    unfold phB hOk
    rw [hB', hT']
    have : (httpL t).length = 29 := by rw [e, s7]
    simp [this]
  exact ⟨hp, by unfold phN; rw [if_pos hp, hT']⟩
theorem back_day {t : Int} (ht : timeB t = true) : pdB (dayL t) = true ∧ pdN (dayL t) = t / 86400 * 86400 := by
  obtain ⟨⟨b1, b2, b3, b4, b5, b6⟩, b7, b8, b9, b10, b11, b12⟩ := parts_bd ht
  obtain ⟨o1, o2⟩ := of_back ht
  have e := dayL_yes ht
  have s : ∀ y m d : Int, sub (txDay y m d) 0 4 = p4 y ∧ sub (txDay y m d) 4 6 = p2 m ∧ sub (txDay y m d) 6 8 = p2 d ∧ (txDay y m d).length = 8 := fun _ _ _ => ⟨rfl, rfl, rfl, rfl⟩
  obtain ⟨s1, s2, s3, s7⟩ := s (yO (t / 86400)) (mO (t / 86400)) (dO (t / 86400))
  have hd : dateB (yO (t / 86400)) (mO (t / 86400)) (dO (t / 86400)) = true := by
    simp only [ofB, Bool.and_eq_true] at o1; exact o1.1
  have hO0 : ofB (yO (t / 86400)) (mO (t / 86400)) (dO (t / 86400)) 0 0 0 = true := by
    simp only [ofB, hd, Bool.true_and]; decide
  have hp : pdB (dayL t) = true := by
    unfold pdB
    rw [e, s1, s2, s3, s7, numV_p4 (by omega) (by omega), numV_p2 (by omega) (by omega), numV_p2 (by omega) (by omega), hO0]
    rfl
  refine ⟨hp, ?_⟩
  unfold pdN
  rw [if_pos hp, e, s1, s2, s3, numV_p4 (by omega) (by omega), numV_p2 (by omega) (by omega), numV_p2 (by omega) (by omega)]
  unfold ofN
  rw [if_pos hO0]
  have ht' : 0 ≤ t ∧ t ≤ 253402300799 := by simpa [timeB] using ht
  have : dayN (yO (t / 86400)) (mO (t / 86400)) (dO (t / 86400)) = t / 86400 := (isDay_O (n := t / 86400) (by omega)).2.2.2.2.2.symm
  rw [this]
  omega

theorem less_app : ∀ (A B x y : List UInt8), A.length = B.length → bytesLess (A ++ x) (B ++ y) = (bytesLess A B || (A == B && bytesLess x y))
  | [], [], x, y, _ => by simp [bytesLess]
  | a :: A, b :: B, x, y, h => by
    have ih := less_app A B x y (by simpa using h)
    simp only [List.cons_append, bytesLess, ih, List.cons_beq_cons]
    cases decide (a < b) <;> cases (a == b) <;> cases bytesLess A B <;> simp
theorem less_refl : ∀ A : List UInt8, bytesLess A A = false
  | [] => rfl
  | a :: A => by simp only [bytesLess, less_refl A]; simp
theorem dg_lt {v w : Nat} (hv : v < 10) (hw : w < 10) : decide (dg v < dg w) = decide (v < w) := by
  rw [decide_eq_decide, UInt8.lt_iff_toNat_lt, dg_toNat hv, dg_toNat hw]; omega
theorem dg_eq {v w : Nat} (hv : v < 10) (hw : w < 10) : (dg v == dg w) = decide (v = w) := by
  rw [Bool.eq_iff_iff, beq_iff_eq, decide_eq_true_eq]
  constructor
  · intro h
    have := congrArg UInt8.toNat h
    rw [dg_toNat hv, dg_toNat hw] at this
    omega
  · intro h; rw [h]
theorem less_pd2 {a b : Nat} (ha : a < 100) (hb : b < 100) : bytesLess (pd2 a) (pd2 b) = decide (a < b) ∧ (pd2 a == pd2 b) = decide (a = b) := by
  unfold pd2
  have e1 := dg_lt (v := a / 10) (w := b / 10) (by omega) (by omega)
  have e2 := dg_eq (v := a / 10) (w := b / 10) (by omega) (by omega)
  have e3 := dg_lt (v := a % 10) (w := b % 10) (by omega) (by omega)
  have e4 := dg_eq (v := a % 10) (w := b % 10) (by omega) (by omega)
  refine ⟨?_, ?_⟩
  · simp only [bytesLess, e1, e2, e3, e4, Bool.and_false, Bool.or_false]
    rw [Bool.eq_iff_iff]
    simp only [Bool.or_eq_true, Bool.and_eq_true, decide_eq_true_eq]
    omega
  · simp only [List.cons_beq_cons, e2, e4]
    rw [Bool.eq_iff_iff]
    simp
    omega
theorem less_p2 {a b : Int} (ha : 0 ≤ a) (ha' : a < 100) (hb : 0 ≤ b) (hb' : b < 100) : bytesLess (p2 a) (p2 b) = decide (a < b) ∧ (p2 a == p2 b) = decide (a = b) := by
  obtain ⟨n, rfl⟩ := Int.eq_ofNat_of_zero_le ha
  obtain ⟨k, rfl⟩ := Int.eq_ofNat_of_zero_le hb
  have h := less_pd2 (a := n) (b := k) (by omega) (by omega)
  refine ⟨h.1.trans ?_, h.2.trans ?_⟩
  · rw [decide_eq_decide]; omega
  · rw [decide_eq_decide]; omega
theorem pd4_cut (n : Nat) : pd4 n = pd2 (n / 100) ++ pd2 (n % 100) := by
  unfold pd4 pd2
  rw [show n / 100 / 10 = n / 1000 by omega, show n % 100 / 10 = n / 10 % 10 by omega, show n % 100 % 10 = n % 10 by omega]
  rfl
theorem less_p4 {a b : Int} (ha : 0 ≤ a) (ha' : a < 10000) (hb : 0 ≤ b) (hb' : b < 10000) : bytesLess (p4 a) (p4 b) = decide (a < b) ∧ (p4 a == p4 b) = decide (a = b) := by
  obtain ⟨n, rfl⟩ := Int.eq_ofNat_of_zero_le ha
  obtain ⟨k, rfl⟩ := Int.eq_ofNat_of_zero_le hb
  have h1 := less_pd2 (a := n / 100) (b := k / 100) (by omega) (by omega)
  have h2 := less_pd2 (a := n % 100) (b := k % 100) (by omega) (by omega)
  show bytesLess (pd4 n) (pd4 k) = _ ∧ (pd4 n == pd4 k) = _
  refine ⟨?_, ?_⟩
  · rw [pd4_cut, pd4_cut, less_app (pd2 (n / 100)) (pd2 (k / 100)) _ _ rfl, h1.1, h1.2, h2.1, Bool.eq_iff_iff]
    simp only [Bool.or_eq_true, Bool.and_eq_true, decide_eq_true_eq]
    omega
  · rw [Bool.eq_iff_iff, beq_iff_eq, decide_eq_true_eq]
    constructor
    · intro h
      have e1 := numV_p4 (v := (n : Int)) (by omega) ha'
      have e2 := numV_p4 (v := (k : Int)) (by omega) hb'
      have e3 : p4 (n : Int) = p4 (k : Int) := h
      rw [e3] at e1
      omega
    · intro h
      have : n = k := by omega
      rw [this]

/-- The order of days. -/
theorem day_lex {n k y m d a b c : Int} (h : IsDay n y m d) (g : IsDay k a b c) (hl : y < a ∨ (y = a ∧ (m < b ∨ (m = b ∧ d < c)))) : n < k := by
  rcases hl with hl | ⟨rfl, hl⟩
  · have h1 := h.year
    have h2 := g.year
    have := ahead_lt hl
    omega
  · obtain ⟨_, h1, h2, h3, h4, rfl⟩ := h
    obtain ⟨_, g1, g2, g3, g4, rfl⟩ := g
    rcases hl with hl | ⟨rfl, hl⟩
    · have := cum_mono y (m := m + 1) (n := b) (by omega) (by omega) (by omega)
      rw [cum_succ y h1 h2] at this
      omega
    · omega
theorem day_lex_iff {n k y m d a b c : Int} (h : IsDay n y m d) (g : IsDay k a b c) : (y < a ∨ (y = a ∧ (m < b ∨ (m = b ∧ d < c)))) ↔ n < k := by
  refine ⟨day_lex h g, fun hn => ?_⟩
  by_cases x : y < a ∨ (y = a ∧ (m < b ∨ (m = b ∧ d < c)))
  · exact x
  · by_cases z : a < y ∨ (a = y ∧ (b < m ∨ (b = m ∧ c < d)))
    · have := day_lex g h z; omega
    · have : y = a ∧ m = b ∧ d = c := by omega
      obtain ⟨rfl, rfl, rfl⟩ := this
      have h5 := h.2.2.2.2.2
      have g5 := g.2.2.2.2.2
      omega
/-- The order of times by their parts. -/
theorem time_lex {t u : Int} (ht : timeB t = true) (hu : timeB u = true) :
    (yO (t / 86400) < yO (u / 86400) ∨ (yO (t / 86400) = yO (u / 86400) ∧ (mO (t / 86400) < mO (u / 86400) ∨ (mO (t / 86400) = mO (u / 86400) ∧ (dO (t / 86400) < dO (u / 86400) ∨ (dO (t / 86400) = dO (u / 86400) ∧ (hO t < hO u ∨ (hO t = hO u ∧ (iO t < iO u ∨ (iO t = iO u ∧ sO t < sO u)))))))))) ↔ t < u := by
  simp only [timeB, decide_eq_true_eq] at ht hu
  have h := isDay_O (n := t / 86400) (by omega)
  have g := isDay_O (n := u / 86400) (by omega)
  have hl := day_lex_iff h g
  have hr := day_lex_iff g h
  have he : (yO (t / 86400) = yO (u / 86400) ∧ mO (t / 86400) = mO (u / 86400) ∧ dO (t / 86400) = dO (u / 86400)) ↔ t / 86400 = u / 86400 := by
    constructor
    · intro hh; omega
    · intro hh; rw [hh]; exact ⟨rfl, rfl, rfl⟩
  generalize yO (t / 86400) = y at *
  generalize mO (t / 86400) = m at *
  generalize dO (t / 86400) = d at *
  generalize yO (u / 86400) = y' at *
  generalize mO (u / 86400) = m' at *
  generalize dO (u / 86400) = d' at *
  clear h g
  have hc : (hO t < hO u ∨ (hO t = hO u ∧ (iO t < iO u ∨ (iO t = iO u ∧ sO t < sO u)))) ↔ t % 86400 < u % 86400 := by
    unfold hO iO sO; omega
  generalize hO t = h1 at *
  generalize iO t = i1 at *
  generalize sO t = s1 at *
  generalize hO u = h2 at *
  generalize iO u = i2 at *
  generalize sO u = s2 at *
  have hA : (y < y' ∨ (y = y' ∧ (m < m' ∨ (m = m' ∧ (d < d' ∨ (d = d' ∧ (h1 < h2 ∨ (h1 = h2 ∧ (i1 < i2 ∨ (i1 = i2 ∧ s1 < s2)))))))))) ↔ (t / 86400 < u / 86400 ∨ (t / 86400 = u / 86400 ∧ t % 86400 < u % 86400)) := by
    rw [← hl, ← he, ← hc]
    clear hl hr he hc ht hu
    constructor
    · rintro (x | ⟨x, x1 | ⟨x1, x2 | ⟨x2, x3⟩⟩⟩)
      · exact .inl (.inl x)
      · exact .inl (.inr ⟨x, .inl x1⟩)
      · exact .inl (.inr ⟨x, .inr ⟨x1, x2⟩⟩)
      · exact .inr ⟨⟨x, x1, x2⟩, x3⟩
    · rintro ((x | ⟨x, x1 | ⟨x1, x2⟩⟩) | ⟨⟨x, x1, x2⟩, x3⟩)
      · exact .inl x
      · exact .inr ⟨x, .inl x1⟩
      · exact .inr ⟨x, .inr ⟨x1, .inl x2⟩⟩
      · exact .inr ⟨x, .inr ⟨x1, .inr ⟨x2, x3⟩⟩⟩
  rw [hA]
  omega
theorem la4 (a b : Int) (x y : List UInt8) : bytesLess (p4 a ++ x) (p4 b ++ y) = (bytesLess (p4 a) (p4 b) || (p4 a == p4 b && bytesLess x y)) := less_app (p4 a) (p4 b) x y rfl
theorem la2 (a b : Int) (x y : List UInt8) : bytesLess (p2 a ++ x) (p2 b ++ y) = (bytesLess (p2 a) (p2 b) || (p2 a == p2 b && bytesLess x y)) := less_app (p2 a) (p2 b) x y rfl
theorem laL (A x y : List UInt8) : bytesLess (A ++ x) (A ++ y) = bytesLess x y := by
  rw [less_app A A x y rfl, less_refl]; simp
theorem less_basic {t u : Int} (ht : timeB t = true) (hu : timeB u = true) : bytesLess (basicL t) (basicL u) = decide (t < u) := by
  obtain ⟨⟨b1, b2, b3, b4, b5, b6⟩, b7, b8, b9, b10, b11, b12⟩ := parts_bd ht
  obtain ⟨⟨c1, c2, c3, c4, c5, c6⟩, c7, c8, c9, c10, c11, c12⟩ := parts_bd hu
  have key := time_lex ht hu
  rw [basicL_yes ht, basicL_yes hu]
  generalize yO (t / 86400) = y at *
  generalize mO (t / 86400) = m at *
  generalize dO (t / 86400) = d at *
  generalize yO (u / 86400) = y' at *
  generalize mO (u / 86400) = m' at *
  generalize dO (u / 86400) = d' at *
  generalize hO t = h1 at *
  generalize iO t = i1 at *
  generalize sO t = s1 at *
  generalize hO u = h2 at *
  generalize iO u = i2 at *
  generalize sO u = s2 at *
  unfold txBasic txDay
  simp only [List.append_assoc]
  rw [la4, la2, la2, laL, la2, la2, la2, less_refl,
    (less_p4 (a := y) (b := y') (by omega) (by omega) (by omega) (by omega)).1, (less_p4 (a := y) (b := y') (by omega) (by omega) (by omega) (by omega)).2,
    (less_p2 (a := m) (b := m') (by omega) (by omega) (by omega) (by omega)).1, (less_p2 (a := m) (b := m') (by omega) (by omega) (by omega) (by omega)).2,
    (less_p2 (a := d) (b := d') (by omega) (by omega) (by omega) (by omega)).1, (less_p2 (a := d) (b := d') (by omega) (by omega) (by omega) (by omega)).2,
    (less_p2 (a := h1) (b := h2) (by omega) (by omega) (by omega) (by omega)).1, (less_p2 (a := h1) (b := h2) (by omega) (by omega) (by omega) (by omega)).2,
    (less_p2 (a := i1) (b := i2) (by omega) (by omega) (by omega) (by omega)).1, (less_p2 (a := i1) (b := i2) (by omega) (by omega) (by omega) (by omega)).2,
    (less_p2 (a := s1) (b := s2) (by omega) (by omega) (by omega) (by omega)).1, Bool.eq_iff_iff]
  simp only [Bool.or_eq_true, Bool.and_eq_true, decide_eq_true_eq, Bool.and_false, Bool.or_false]
  exact key
theorem less_iso {t u : Int} (ht : timeB t = true) (hu : timeB u = true) : bytesLess (isoL t) (isoL u) = decide (t < u) := by
  obtain ⟨⟨b1, b2, b3, b4, b5, b6⟩, b7, b8, b9, b10, b11, b12⟩ := parts_bd ht
  obtain ⟨⟨c1, c2, c3, c4, c5, c6⟩, c7, c8, c9, c10, c11, c12⟩ := parts_bd hu
  have key := time_lex ht hu
  rw [isoL_yes ht, isoL_yes hu]
  generalize yO (t / 86400) = y at *
  generalize mO (t / 86400) = m at *
  generalize dO (t / 86400) = d at *
  generalize yO (u / 86400) = y' at *
  generalize mO (u / 86400) = m' at *
  generalize dO (u / 86400) = d' at *
  generalize hO t = h1 at *
  generalize iO t = i1 at *
  generalize sO t = s1 at *
  generalize hO u = h2 at *
  generalize iO u = i2 at *
  generalize sO u = s2 at *
  unfold txIso txClock
  simp only [List.append_assoc]
  rw [la4, laL, la2, laL, la2, laL, la2, laL, la2, laL, la2, less_refl,
    (less_p4 (a := y) (b := y') (by omega) (by omega) (by omega) (by omega)).1, (less_p4 (a := y) (b := y') (by omega) (by omega) (by omega) (by omega)).2,
    (less_p2 (a := m) (b := m') (by omega) (by omega) (by omega) (by omega)).1, (less_p2 (a := m) (b := m') (by omega) (by omega) (by omega) (by omega)).2,
    (less_p2 (a := d) (b := d') (by omega) (by omega) (by omega) (by omega)).1, (less_p2 (a := d) (b := d') (by omega) (by omega) (by omega) (by omega)).2,
    (less_p2 (a := h1) (b := h2) (by omega) (by omega) (by omega) (by omega)).1, (less_p2 (a := h1) (b := h2) (by omega) (by omega) (by omega) (by omega)).2,
    (less_p2 (a := i1) (b := i2) (by omega) (by omega) (by omega) (by omega)).1, (less_p2 (a := i1) (b := i2) (by omega) (by omega) (by omega) (by omega)).2,
    (less_p2 (a := s1) (b := s2) (by omega) (by omega) (by omega) (by omega)).1, Bool.eq_iff_iff]
  simp only [Bool.or_eq_true, Bool.and_eq_true, decide_eq_true_eq, Bool.and_false, Bool.or_false]
  exact key
theorem week_same {t : Int} (ht : timeB t = true) (hu : timeB (t + 604800) = true) : sub (httpL (t + 604800)) 0 3 = sub (httpL t) 0 3 := by
  have b := (parts_bd ht).1
  have c := (parts_bd hu).1
  rw [httpL_yes ht, httpL_yes hu]
  have e : ((t + 604800) / 86400 + 3) % 7 = (t / 86400 + 3) % 7 := by omega
  rw [e, (sub_https (by omega) ⟨b.2.2.1, b.2.2.2.1⟩).2.2.2.2.2.2, (sub_https (by omega) ⟨c.2.2.1, c.2.2.2.1⟩).2.2.2.2.2.2]
end Go.Proofs.YtbemlmhchpinhaaDoor
