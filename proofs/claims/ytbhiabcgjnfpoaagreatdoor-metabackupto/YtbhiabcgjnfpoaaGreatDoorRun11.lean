/-
  What a key of the map names: mathematics, without a walk.
-/
import Derived.Test.YtbhiabcgjnfpoaaGreatDoorRun03
import Derived.Test.YtbhiabcgjnfpoaaGreatDoorRun10
import Derived.Test.YtbhiabcgjnfpoaaGreatDoorRun05
namespace Go.Proofs.YtbhiabcgjnfpoaaGreatDoor
open Go.RowKit

/-- What a key of that kind names. -/
def NK (c : UInt8) (s b k : List UInt8) (n : Nat) : Prop := s = nk c b k n ∧ bucketB b = true ∧ keyB k = true ∧ n ≤ 9223372036854775807

theorem key_nz {k : List UInt8} (h : keyB k = true) : nz k := by
  unfold keyB at h
  rw [key_math k.length k (Nat.le_refl _)] at h
  simp only [Bool.and_eq_true, Bool.not_eq_true'] at h
  intro hm
  have := h.2.2
  rw [← Bool.not_eq_true] at this
  exact this (by
    unfold inL
    rw [List.any_eq_true]
    exact ⟨0, hm, by simp⟩)
theorem buk_zero : bukB ((0 : UInt8).toNat : Int) = false := by decide
theorem bucket_nz {b : List UInt8} (h : bucketB b = true) : nz b := by
  unfold bucketB at h
  simp only [Bool.and_eq_true] at h
  have h2 := h.2.1
  intro hm
  unfold allB at h2
  rw [List.all_eq_true] at h2
  have := h2 0 hm
  rw [show bukB (((0 : UInt8).toNat : Nat) : Int) = false from buk_zero] at this
  cases this

theorem nk_inj {c : UInt8} {a k b l : List UInt8} {n m : Nat} (hb : nz b) (hl : nz l) (hn : n ≤ 9223372036854775807) (hm : m ≤ 9223372036854775807) (h : nk c a k n = nk c b l m) : a = b ∧ k = l ∧ n = m := by
  unfold nk at h
  rw [List.cons.injEq] at h
  have h2 : (a ++ 0 :: k) ++ 0 :: En.be n 8 = (b ++ 0 :: l) ++ 0 :: En.be m 8 := by simpa using h.2
  obtain ⟨e1, e2⟩ := append_len h2 (by simp [En.be_length])
  rw [List.cons.injEq] at e2
  obtain ⟨e3, e4⟩ := part_nz a b k l hb hl e1
  exact ⟨e3, e4, be_inj (by omega) (by omega) e2.2⟩

theorem NK.unique {c : UInt8} {s b k b' k' : List UInt8} {n n' : Nat} (h : NK c s b k n) (h' : NK c s b' k' n') : b = b' ∧ k = k' ∧ n = n' :=
  nk_inj (bucket_nz h'.2.1) (key_nz h'.2.2.1) h.2.2.2 h'.2.2.2 (h.1.symm.trans h'.1)

open Classical in
/-- What parsing tells. -/
noncomputable def pn (c : UInt8) (s : List UInt8) : Option (List UInt8 × List UInt8 × Nat) :=
  if h : ∃ r : List UInt8 × List UInt8 × Nat, NK c s r.1 r.2.1 r.2.2 then some h.choose else none
theorem pn_yes {c : UInt8} {s b k : List UInt8} {n : Nat} (h : NK c s b k n) : pn c s = some (b, k, n) := by
  have hx : ∃ r : List UInt8 × List UInt8 × Nat, NK c s r.1 r.2.1 r.2.2 := ⟨(b, k, n), h⟩
  unfold pn
  rw [dif_pos hx]
  obtain ⟨e1, e2, e3⟩ := NK.unique hx.choose_spec h
  rw [show hx.choose = (b, k, n) from Prod.ext e1 (Prod.ext e2 e3)]
theorem pn_no {c : UInt8} {s : List UInt8} (h : ∀ b k n, ¬ NK c s b k n) : pn c s = none := by
  unfold pn
  rw [dif_neg]
  rintro ⟨r, hr⟩
  exact h _ _ _ hr
theorem pn_some {c : UInt8} {s : List UInt8} {r : List UInt8 × List UInt8 × Nat} (h : pn c s = some r) : NK c s r.1 r.2.1 r.2.2 := by
  unfold pn at h
  split at h
  · next hx =>
    rw [Option.some.injEq] at h
    rw [← h]
    exact hx.choose_spec
  · cases h
theorem pn_none {c : UInt8} {s : List UInt8} (h : pn c s = none) : ∀ b k n, ¬ NK c s b k n := fun b k n hk => by
  rw [pn_yes hk] at h
  cases h
theorem pn_head {c d : UInt8} {s : List UInt8} (h : (pn c (d :: s)).isSome = true) : c = d := by
  cases e : pn c (d :: s) with
  | none => rw [e] at h; cases h
  | some r =>
    have := (pn_some e).1
    unfold nk at this
    rw [List.cons.injEq] at this
    exact this.1.symm

end Go.Proofs.YtbhiabcgjnfpoaaGreatDoor
/-
  How a key is taken apart, by the code and by the document: mathematics, without a walk.
-/
namespace Go.Proofs.YtbhiabcgjnfpoaaGreatDoor
open Go.RowKit

/-- A text ahead of its first 0, and behind it. -/
def bz (l : List UInt8) : List UInt8 := l.takeWhile (· != 0)
def hzb (l : List UInt8) : Bool := l.any (· == 0)
def az (l : List UInt8) : List UInt8 := if hzb l then l.drop ((bz l).length + 1) else []

theorem bz_of {b r : List UInt8} (h : nz b) : bz (b ++ 0 :: r) = b := by
  induction b with
  | nil => simp [bz]
  | cons a b ih =>
    have := nz_cons.1 h
    have h1 : (a != 0) = true := by simpa using this.1
    show List.takeWhile _ (a :: (b ++ 0 :: r)) = _
    rw [List.takeWhile_cons, if_pos h1]
    exact congrArg (a :: ·) (ih this.2)
theorem hzb_of (b r : List UInt8) : hzb (b ++ 0 :: r) = true := by simp [hzb]
theorem az_of {b r : List UInt8} (h : nz b) : az (b ++ 0 :: r) = r := by
  unfold az
  rw [if_pos (hzb_of b r), bz_of h]
  have e : b ++ 0 :: r = (b ++ [0]) ++ r := by simp
  rw [e, show b.length + 1 = (b ++ [0]).length by simp]
  exact List.drop_left
theorem hzb_split : ∀ {l : List UInt8}, hzb l = true → l = bz l ++ 0 :: az l
  | [], h => by cases h
  | a :: l, h => by
    by_cases ha : a = 0
    · subst ha
      simp [bz, az, hzb]
    · have h1 : (a != 0) = true := by simpa using ha
      have h2 : hzb l = true := by
        simp only [hzb, List.any_cons, Bool.or_eq_true] at h ⊢
        rcases h with h | h
        · exact absurd (by simpa using h) ha
        · exact h
      have ih := hzb_split h2
      have eb : bz (a :: l) = a :: bz l := by
        show List.takeWhile _ _ = _
        rw [List.takeWhile_cons, if_pos h1]
        rfl
      have ea : az (a :: l) = az l := by
        unfold az
        rw [if_pos h, if_pos h2, eb]
        simp
      rw [eb, ea]
      exact congrArg (a :: ·) ih
theorem hzb_no : ∀ {l : List UInt8}, hzb l = false → bz l = l
  | [], _ => rfl
  | a :: l, h => by
    simp only [hzb, List.any_cons, Bool.or_eq_false_iff] at h
    have h1 : (a != 0) = true := by
      have := h.1
      simp at this
      simpa using this
    show List.takeWhile _ _ = _
    rw [List.takeWhile_cons, if_pos h1]
    exact congrArg (a :: ·) (hzb_no (l := l) h.2)
theorem idx0 : ∀ l : List UInt8, Lib.indexByte l 0 = if hzb l then ((bz l).length : Int) else -1
  | [] => rfl
  | a :: l => by
    have ih := idx0 l
    rw [Lib.indexByte]
    by_cases ha : a = 0
    · subst ha
      simp [hzb, bz]
    · have h0 : (a == 0) = false := by simpa using ha
      have h1 : (a != 0) = true := by simpa using ha
      have eb : bz (a :: l) = a :: bz l := by
        show List.takeWhile _ _ = _
        rw [List.takeWhile_cons, if_pos h1]
        rfl
      have eh : hzb (a :: l) = hzb l := by simp [hzb, h0]
      rw [if_neg (by simp [h0]), ih, eh, eb]
      cases hzb l
      · rfl
      · simp only [if_true, List.length_cons]
        rw [if_neg (by simp)]
        omega
theorem bz_len (l : List UInt8) : (bz l).length ≤ l.length := by
  cases h : hzb l
  · rw [hzb_no h]; exact Nat.le_refl _
  · have := congrArg List.length (hzb_split h)
    simp only [List.length_append, List.length_cons] at this
    omega
theorem az_len (l : List UInt8) : (az l).length ≤ l.length := by
  unfold az
  split
  · simp
  · simp
theorem bz_lt {l : List UInt8} (h : hzb l = true) : (bz l).length + 1 ≤ l.length := by
  have := congrArg List.length (hzb_split h)
  simp only [List.length_append, List.length_cons] at this
  omega
theorem bz_take (l : List UInt8) : bz l = l.take (bz l).length := by
  cases h : hzb l
  · rw [hzb_no h, List.take_length]
  · have e := hzb_split h
    generalize bz l = b at e
    rw [e]
    simp

theorem pre_one (c : UInt8) (l : List UInt8) : Lib.hasPrefix l [c] = true ↔ ∃ T, l = c :: T := by
  unfold Lib.hasPrefix
  cases l with
  | nil => simp [List.isPrefixOf]
  | cons a r =>
    simp only [List.isPrefixOf, Bool.and_true, beq_iff_eq, List.cons.injEq]
    exact ⟨fun h => ⟨r, h.symm, rfl⟩, fun ⟨T, h, _⟩ => h.symm⟩
theorem trim_one (c : UInt8) (T : List UInt8) : Lib.trimPrefix (c :: T) [c] = T := by
  unfold Lib.trimPrefix
  rw [if_pos ((pre_one c _).2 ⟨T, rfl⟩)]
  rfl
theorem suf_one (c : UInt8) (l : List UInt8) : Lib.hasSuffix l [c] = true ↔ ∃ T, l = T ++ [c] := by
  unfold Lib.hasSuffix
  rw [List.isSuffixOf_iff_suffix]
  exact ⟨fun ⟨t, h⟩ => ⟨t, h.symm⟩, fun ⟨T, h⟩ => ⟨T, h.symm⟩⟩
theorem trims_one (c : UInt8) (T : List UInt8) : Lib.trimSuffix (T ++ [c]) [c] = T := by
  unfold Lib.trimSuffix
  rw [if_pos ((suf_one c _).2 ⟨T, rfl⟩)]
  simp

/-- The code's way: the number off first, then the 0 ahead of it, then the names. -/
def cdP (T : List UInt8) : List UInt8 := T.take (T.length - 8)
def cdN (T : List UInt8) : List UInt8 := T.drop (T.length - 8)
def cdQ (T : List UInt8) : List UInt8 := Lib.trimSuffix (cdP T) [0]
def cdOk (T : List UInt8) : Bool := gnOk (cdN T) && (Lib.hasSuffix (cdP T) [0] && (hzb (cdQ T) && (bucketB (bz (cdQ T)) && keyB (az (cdQ T)))))

theorem cd_yes (c : UInt8) {T : List UInt8} (h : cdOk T = true) : NK c (c :: T) (bz (cdQ T)) (az (cdQ T)) (gn (cdN T)) := by
  unfold cdOk at h
  simp only [Bool.and_eq_true] at h
  obtain ⟨h1, h2, h3, h4, h5⟩ := h
  refine ⟨?_, h4, h5, (gn_of h1).2⟩
  unfold nk
  rw [← (gn_of h1).1]
  obtain ⟨X, hX⟩ := (suf_one 0 _).1 h2
  have hQ : cdQ T = X := by unfold cdQ; rw [hX, trims_one]
  have e := hzb_split h3
  rw [hQ] at e ⊢
  have hT : T = cdP T ++ cdN T := (List.take_append_drop _ _).symm
  have e2 : bz X ++ 0 :: (az X ++ 0 :: cdN T) = X ++ 0 :: cdN T := by
    have : bz X ++ 0 :: (az X ++ 0 :: cdN T) = (bz X ++ 0 :: az X) ++ 0 :: cdN T := by simp
    rw [this, ← e]
  rw [e2]
  have e3 : T = X ++ 0 :: cdN T := by
    have : X ++ 0 :: cdN T = (X ++ [0]) ++ cdN T := by simp
    rw [this, ← hX]
    exact hT
  exact congrArg (c :: ·) e3
theorem cd_no (c : UInt8) {T : List UInt8} (h : cdOk T = false) : ∀ b k n, ¬ NK c (c :: T) b k n := by
  intro b k n hk
  obtain ⟨e, hb, hkk, hn⟩ := hk
  unfold nk at e
  rw [List.cons.injEq] at e
  have eT := e.2
  have hP : T = ((b ++ 0 :: k) ++ [0]) ++ En.be n 8 := by rw [eT]; simp
  have hl : T.length - 8 = ((b ++ 0 :: k) ++ [0]).length := by rw [hP]; simp [En.be_length]; omega
  have hp : cdP T = (b ++ 0 :: k) ++ [0] := by
    unfold cdP
    rw [hl, hP]
    exact List.take_left
  have hnn : cdN T = En.be n 8 := by
    unfold cdN
    rw [hl, hP]
    exact List.drop_left
  have hq : cdQ T = b ++ 0 :: k := by unfold cdQ; rw [hp, trims_one]
  have : cdOk T = true := by
    unfold cdOk
    rw [hnn, hq, hp, (gn_be hn).1, (suf_one 0 _).2 ⟨_, rfl⟩, hzb_of, bz_of (bucket_nz hb), az_of (bucket_nz hb), hb, hkk]
    rfl
  rw [this] at h
  cases h
theorem cd_short (c : UInt8) {T : List UInt8} (h : T.length < 8) : ∀ b k n, ¬ NK c (c :: T) b k n := by
  intro b k n hk
  obtain ⟨e, -⟩ := hk
  have := congrArg List.length e
  simp [nk, En.be_length] at this
  omega
theorem cd_kind (c : UInt8) {l : List UInt8} (h : Lib.hasPrefix l [c] = false) : ∀ b k n, ¬ NK c l b k n := by
  intro b k n hk
  have : Lib.hasPrefix l [c] = true := (pre_one c l).2 ⟨_, hk.1⟩
  rw [this] at h
  cases h

/-- The document's way. -/
def rfK (R : List UInt8) : List UInt8 := R.take (R.length - 9)
def rfN (R : List UInt8) : List UInt8 := R.drop (R.length - 8)
def rfOk (T : List UInt8) : Bool := gnOk (rfN (az T)) && (bucketB (bz T) && keyB (rfK (az T)))
theorem rf_cut {R : List UInt8} (h : 9 ≤ R.length) (h0 : R[R.length - 9]'(by omega) = 0) : R = rfK R ++ 0 :: rfN R := by
  have e1 : R = R.take (R.length - 9) ++ R.drop (R.length - 9) := (List.take_append_drop _ _).symm
  have e2 : R.drop (R.length - 9) = R[R.length - 9]'(by omega) :: R.drop (R.length - 9 + 1) := List.drop_eq_getElem_cons (by omega)
  rw [h0, show R.length - 9 + 1 = R.length - 8 by omega] at e2
  unfold rfK rfN
  rw [← e2]
  exact e1
theorem rf_yes (c : UInt8) {T : List UInt8} (hz : hzb T = true) (h9 : 9 ≤ (az T).length) (h0 : (az T)[(az T).length - 9]'(by omega) = 0) (h : rfOk T = true) : NK c (c :: T) (bz T) (rfK (az T)) (gn (rfN (az T))) := by
  unfold rfOk at h
  simp only [Bool.and_eq_true] at h
  refine ⟨?_, h.2.1, h.2.2, (gn_of h.1).2⟩
  unfold nk
  rw [← (gn_of h.1).1, ← rf_cut h9 h0, ← hzb_split hz]
theorem rf_fwd {c : UInt8} {T b k : List UInt8} {n : Nat} (hk : NK c (c :: T) b k n) : hzb T = true ∧ 9 ≤ (az T).length ∧ (∀ h : 9 ≤ (az T).length, (az T)[(az T).length - 9]'(by omega) = 0) ∧ rfOk T = true := by
  obtain ⟨e, hb, hkk, hn⟩ := hk
  unfold nk at e
  rw [List.cons.injEq] at e
  have eT := e.2
  have ha : az T = k ++ 0 :: En.be n 8 := by rw [eT, az_of (bucket_nz hb)]
  have hbz : bz T = b := by rw [eT, bz_of (bucket_nz hb)]
  have hlen : (az T).length = k.length + 9 := by rw [ha]; simp [En.be_length]
  have hK : rfK (az T) = k := by
    unfold rfK
    rw [hlen, ha, show k.length + 9 - 9 = k.length by omega]
    exact List.take_left
  have hN : rfN (az T) = En.be n 8 := by
    unfold rfN
    rw [hlen, ha, show k.length + 9 - 8 = (k ++ [0]).length by simp, show k ++ 0 :: En.be n 8 = (k ++ [0]) ++ En.be n 8 by simp]
    exact List.drop_left
  refine ⟨by rw [eT]; exact hzb_of _ _, by omega, fun h => ?_, ?_⟩
  · have h2 : (az T)[(az T).length - 9]? = some 0 := by
      rw [hlen, ha, show k.length + 9 - 9 = k.length by omega]
      simp
    rw [List.getElem?_eq_getElem (by omega)] at h2
    exact Option.some.inj h2
  · unfold rfOk
    rw [hN, hK, hbz, (gn_be hn).1, hb, hkk]
    rfl

/-- A part's key. -/
def ppOk (T : List UInt8) : Bool := gnOk (T.take 8) && gnOk (T.drop 8)
theorem pp_pk {s n : Nat} : (pk s n).length = 17 := by simp [pk, En.be_length]

/-- What parsing a part's key tells. -/
def pt (l : List UInt8) : Nat × Nat × Bool := if Lib.hasPrefix l [80] && (decide (l.length = 17) && ppOk (l.drop 1)) then (gn ((l.drop 1).take 8), gn ((l.drop 1).drop 8), true) else (0, 0, false)
theorem pt_pk {s n : Nat} (hs : s ≤ 9223372036854775807) (hn : n ≤ 9223372036854775807) : pt (pk s n) = (s, n, true) := by
  have e1 : ((pk s n).drop 1).take 8 = En.be s 8 := by
    show (En.be s 8 ++ En.be n 8).take 8 = _
    have := En.be_length s 8
    rw [List.take_append_of_le_length (by omega), List.take_of_length_le (by omega)]
  have e2 : ((pk s n).drop 1).drop 8 = En.be n 8 := by
    show (En.be s 8 ++ En.be n 8).drop 8 = _
    have := En.be_length s 8
    rw [List.drop_append_of_le_length (by omega), List.drop_of_length_le (by omega)]
    rfl
  unfold pt
  rw [if_pos, e1, e2, (gn_be hs).2, (gn_be hn).2]
  rw [ppOk, e1, e2, (gn_be hs).1, (gn_be hn).1, (pre_one 80 (pk s n)).2 ⟨_, rfl⟩, pp_pk]
  rfl
theorem pt_head {d : UInt8} {l : List UInt8} (h : (pt (d :: l)).2.2 = true) : (80 : UInt8) = d := by
  unfold pt at h
  split at h
  · next hc =>
    simp only [Bool.and_eq_true] at hc
    obtain ⟨T, hT⟩ := (pre_one 80 _).1 hc.1
    rw [List.cons.injEq] at hT
    exact hT.1.symm
  · cases h
theorem pt_no {l : List UInt8} (h : (pt l).2.2 = false) : pt l = (0, 0, false) := by
  unfold pt at h ⊢
  split at h
  · cases h
  · next hc => rw [if_neg hc]

/-- A bucket's key. -/
def bkOk (l : List UInt8) : Bool := Lib.hasPrefix l [66] && bucketB (l.drop 1)
def bkV (l : List UInt8) : List UInt8 := if bkOk l then l.drop 1 else []
theorem bk_head {d : UInt8} {l : List UInt8} (h : bkOk (d :: l) = true) : (66 : UInt8) = d := by
  unfold bkOk at h
  simp only [Bool.and_eq_true] at h
  obtain ⟨T, hT⟩ := (pre_one 66 _).1 h.1
  rw [List.cons.injEq] at hT
  exact hT.1.symm

/-- A number's sixteen digits. -/
def sqOk (l : List UInt8) : Bool := En.uhOk l && gnOk (En.uhL l)
def sqN (l : List UInt8) : Nat := if En.uhOk l then gn (En.uhL l) else 0
theorem sq_id {n : Nat} (h : n ≤ 9223372036854775807) : sqOk (En.hexL (En.be n 8)) = true ∧ sqN (En.hexL (En.be n 8)) = n := by
  obtain ⟨e1, e2⟩ := En.hex_back (En.be n 8)
  unfold sqOk sqN
  rw [e1, e2, (gn_be h).1, if_pos rfl, (gn_be h).2]
  exact ⟨rfl, rfl⟩
end Go.Proofs.YtbhiabcgjnfpoaaGreatDoor
