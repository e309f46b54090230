/-
  The plain mathematics of escapes: what a text stands for.
-/
import Derived.Test.YtohkocknpmnakaaGreatDoorXmM
import Derived.Lib.RuneBytes
import Derived.Lib.Replace
namespace Go.Proofs.YtohkocknpmnakaaGreatDoor

def chN (n : Nat) : Bool := decide (n = 9 ∨ n = 10 ∨ n = 13 ∨ (32 ≤ n ∧ n ≤ 55295) ∨ (57344 ≤ n ∧ n ≤ 65533) ∨ (65536 ≤ n ∧ n ≤ 1114111))
/-- What a digit counts; 99: it is none. -/
def dv (c : UInt8) : Nat := if 48 ≤ c.toNat ∧ c.toNat ≤ 57 then c.toNat - 48 else if 65 ≤ c.toNat ∧ c.toNat ≤ 70 then c.toNat - 55 else if 97 ≤ c.toNat ∧ c.toNat ≤ 102 then c.toNat - 87 else 99
def digs (base : Nat) : Nat → List UInt8 → Option Nat
  | n, [] => some n
  | n, c :: r => if dv c < base then digs base (base * n + dv c) r else none
def numL (base : Nat) (ds : List UInt8) : Option (List UInt8) :=
  if 1 ≤ ds.length ∧ ds.length ≤ 7 then (digs base 0 ds).bind fun n => if chN n then some (Lib.encodeRune (n : Int)) else none else none
def entL (a : List UInt8) : Option (List UInt8) :=
  if a = [97, 109, 112] then some [38] else if a = [108, 116] then some [60] else if a = [103, 116] then some [62] else if a = [113, 117, 111, 116] then some [34] else if a = [97, 112, 111, 115] then some [39]
  else match eat [35, 120] a with
  | some ds => numL 16 ds
  | none => (eat [35] a).bind (numL 10)
def unF : Nat → List UInt8 → Option (List UInt8)
  | _, [] => some []
  | 0, _ :: _ => none
  | f + 1, c :: r => if c = 38 then (if (upto 59 r).length = r.length then none else (entL (upto 59 r)).bind fun t => (unF f (r.drop ((upto 59 r).length + 1))).map (t ++ ·)) else (unF f r).map (c :: ·)
def unL (l : List UInt8) : Option (List UInt8) := unF l.length l
def crL : List UInt8 → List UInt8
  | [] => []
  | [c] => [if c = 13 then 10 else c]
  | c :: d :: r => if c = 13 then (if d = 10 then 10 :: crL r else 10 :: crL (d :: r)) else c :: crL (d :: r)
/-- Unescape. -/
def une (l : List UInt8) : Option (List UInt8) := unL (crL l)
def unR : Nat → List UInt8 → Option (List UInt8)
  | _, [] => some []
  | 0, _ :: _ => none
  | f + 1, c :: r => if c = 13 then (unR f (if r.head? = some 10 then r.drop 1 else r)).map (10 :: ·) else if c = 38 then (if (upto 59 r).length = r.length then none else (entL (upto 59 r)).bind fun t => (unR f (r.drop ((upto 59 r).length + 1))).map (t ++ ·)) else (unR f r).map (c :: ·)

theorem dv_ok {c : UInt8} {b : Nat} (hb : b ≤ 16) (h : dv c < b) : 48 ≤ c.toNat ∧ c.toNat < 103 := by
  unfold dv at h
  split at h
  · omega
  · split at h
    · omega
    · split at h <;> omega
theorem digs_ok {b : Nat} (hb : b ≤ 16) : ∀ {l : List UInt8} {n m : Nat}, digs b n l = some m → ∀ c ∈ l, 48 ≤ c.toNat ∧ c.toNat < 103
  | [], _, _, _, c, hc => by cases hc
  | a :: r, n, m, h, c, hc => by
    simp only [digs] at h
    split at h
    · next hd =>
      rcases List.mem_cons.1 hc with rfl | hc
      · exact dv_ok hb hd
      · exact digs_ok hb h c hc
    · cases h
theorem num_ok {b : Nat} (hb : b ≤ 16) {l t : List UInt8} (h : numL b l = some t) : l.length ≤ 7 ∧ ∀ c ∈ l, 48 ≤ c.toNat ∧ c.toNat < 103 := by
  unfold numL at h
  split at h
  · next hl =>
    simp only [Option.bind_eq_some_iff] at h
    obtain ⟨n, h1, h2⟩ := h
    exact ⟨hl.2, digs_ok hb h1⟩
  · cases h
/-- What may stand in an escape. -/
theorem ent_ok {a t : List UInt8} (h : entL a = some t) : a.length ≤ 9 ∧ ∀ c ∈ a, 39 ≤ c.toNat + 4 ∧ c.toNat < 128 ∧ c ≠ 38 ∧ c ≠ 13 ∧ c ≠ 10 := by
  have key : ∀ c : UInt8, 48 ≤ c.toNat ∧ c.toNat < 128 → 39 ≤ c.toNat + 4 ∧ c.toNat < 128 ∧ c ≠ 38 ∧ c ≠ 13 ∧ c ≠ 10 := by
    intro c h
    refine ⟨by omega, by omega, ?_, ?_, ?_⟩ <;> (rintro rfl; simp at h)
  unfold entL at h
  by_cases h1 : a = [97, 109, 112]
  · subst h1; exact ⟨by decide, by decide⟩
  · rw [if_neg h1] at h
    by_cases h2 : a = [108, 116]
    · subst h2; exact ⟨by decide, by decide⟩
    · rw [if_neg h2] at h
      by_cases h3 : a = [103, 116]
      · subst h3; exact ⟨by decide, by decide⟩
      · rw [if_neg h3] at h
        by_cases h4 : a = [113, 117, 111, 116]
        · subst h4; exact ⟨by decide, by decide⟩
        · rw [if_neg h4] at h
          by_cases h5 : a = [97, 112, 111, 115]
          · subst h5; exact ⟨by decide, by decide⟩
          · rw [if_neg h5] at h
            split at h
            · next ds hd =>
              obtain ⟨hl, rfl⟩ := eat_len hd
              have := num_ok (by omega) h
              have hcs : ∀ c ∈ ([35, 120] : List UInt8), 39 ≤ c.toNat + 4 ∧ c.toNat < 128 ∧ c ≠ 38 ∧ c ≠ 13 ∧ c ≠ 10 := by decide
              refine ⟨by simp; omega, fun c hc => ?_⟩
              rcases List.mem_append.1 hc with hc | hc
              · exact hcs c hc
              · exact key c ⟨(this.2 c hc).1, by have := (this.2 c hc).2; omega⟩
            · simp only [Option.bind_eq_some_iff] at h
              obtain ⟨ds, hd, h⟩ := h
              obtain ⟨hl, rfl⟩ := eat_len hd
              have := num_ok (by omega) h
              have hcs : ∀ c ∈ ([35] : List UInt8), 39 ≤ c.toNat + 4 ∧ c.toNat < 128 ∧ c ≠ 38 ∧ c ≠ 13 ∧ c ≠ 10 := by decide
              refine ⟨by simp; omega, fun c hc => ?_⟩
              rcases List.mem_append.1 hc with hc | hc
              · exact hcs c hc
              · exact key c ⟨(this.2 c hc).1, by have := (this.2 c hc).2; omega⟩

theorem unF_more : ∀ (f g : Nat) (l : List UInt8), l.length ≤ f → l.length ≤ g → unF f l = unF g l
  | 0, g, l, h1, h2 => by
    obtain rfl : l = [] := List.eq_nil_of_length_eq_zero (by omega)
    cases g <;> rfl
  | f + 1, g, [], h1, h2 => by cases g <;> rfl
  | f + 1, 0, a :: r, h1, h2 => by simp at h2
  | f + 1, g + 1, a :: r, h1, h2 => by
    simp only [List.length_cons] at h1 h2
    simp only [unF]
    rw [unF_more f g r (by omega) (by omega)]
    by_cases h : a = 38
    · rw [if_pos h, if_pos h]
      split
      · rfl
      · congr 1
        funext t
        rw [unF_more f g _ (by simp; omega) (by simp; omega)]
    · rw [if_neg h, if_neg h]
theorem unL_cons (c : UInt8) (r : List UInt8) (h : c ≠ 38) : unL (c :: r) = (unL r).map (c :: ·) := by
  simp only [unL, List.length_cons, unF, if_neg h]
theorem unL_amp (r : List UInt8) : unL (38 :: r) = if (upto 59 r).length = r.length then none else (entL (upto 59 r)).bind fun t => (unL (r.drop ((upto 59 r).length + 1))).map (t ++ ·) := by
  simp only [unL, List.length_cons, unF, if_true]
  split
  · rfl
  · congr 1
    funext t
    rw [unF_more _ (r.drop ((upto 59 r).length + 1)).length _ (by simp) (Nat.le_refl _)]
/-- Bytes without an ampersand stay. -/
theorem unL_app : ∀ (a r : List UInt8), (∀ c ∈ a, c ≠ 38) → unL (a ++ r) = (unL r).map (a ++ ·)
  | [], r, _ => by simp
  | c :: a, r, h => by
    rw [List.cons_append, unL_cons c _ (h c (by simp)), unL_app a r (fun x hx => h x (by simp [hx])), Option.map_map]
    rfl

theorem upto_split {c : UInt8} {l : List UInt8} (h : (upto c l).length ≠ l.length) : l = upto c l ++ c :: l.drop ((upto c l).length + 1) := by
  induction l with
  | nil => exact absurd rfl h
  | cons a r ih =>
    by_cases e : a = c
    · subst e
      simp [upto]
    · have h2 : upto c (a :: r) = a :: upto c r := by simp [upto, e]
      rw [h2] at h ⊢
      simp only [List.length_cons, ne_eq, Nat.add_right_cancel_iff] at h
      simp only [List.cons_append, List.length_cons, List.drop_succ_cons]
      rw [← ih h]
theorem upto_none {c : UInt8} {l : List UInt8} : (upto c l).length = l.length ↔ c ∉ l := by
  induction l with
  | nil => simp [upto]
  | cons a r ih =>
    by_cases e : a = c
    · subst e
      simp [upto]
    · have h2 : upto c (a :: r) = a :: upto c r := by simp [upto, e]
      rw [h2]
      simp only [List.length_cons, Nat.add_right_cancel_iff, ih, List.mem_cons, not_or]
      exact ⟨fun h => ⟨Ne.symm e, h⟩, fun h => h.2⟩
theorem upto_not (c : UInt8) (l : List UInt8) : c ∉ upto c l := by
  intro h
  have := List.all_takeWhile (p := (· != c)) (l := l)
  rw [List.all_eq_true] at this
  have := this c h
  simp at this
theorem upto_app {c : UInt8} {a r : List UInt8} (h : c ∉ a) : upto c (a ++ c :: r) = a := by
  induction a with
  | nil => simp [upto]
  | cons x a ih =>
    have hx : x ≠ c := fun e => h (by simp [e])
    have : upto c (x :: a ++ c :: r) = x :: upto c (a ++ c :: r) := by simp [upto, hx]
    rw [this, ih (fun hm => h (by simp [hm]))]

theorem crL_cons {c : UInt8} (h : c ≠ 13) (r : List UInt8) : crL (c :: r) = c :: crL r := by
  cases r with
  | nil => simp [crL, h]
  | cons d r => simp [crL, h]
theorem crL_cr (r : List UInt8) : crL (13 :: r) = 10 :: crL (if r.head? = some 10 then r.drop 1 else r) := by
  cases r with
  | nil => simp [crL]
  | cons d r =>
    by_cases h : d = 10
    · subst h; simp [crL]
    · simp [crL, h]
theorem crL_len : ∀ (n : Nat) (l : List UInt8), l.length ≤ n → (crL l).length ≤ l.length
  | 0, l, h => by
    obtain rfl : l = [] := List.eq_nil_of_length_eq_zero (by omega)
    simp [crL]
  | n + 1, [], h => by simp [crL]
  | n + 1, c :: r, h => by
    simp only [List.length_cons] at h
    by_cases hc : c = 13
    · subst hc
      rw [crL_cr]
      split
      · have := crL_len n (r.drop 1) (by simp; omega)
        simp at this ⊢
        omega
      · have := crL_len n r (by omega)
        simp; omega
    · rw [crL_cons hc]
      have := crL_len n r (by omega)
      simp; omega
theorem crL_app : ∀ (n : Nat) (a y : List UInt8), a.length ≤ n → crL (a ++ 59 :: y) = crL a ++ 59 :: crL y
  | 0, a, y, h => by
    obtain rfl : a = [] := List.eq_nil_of_length_eq_zero (by omega)
    rw [List.nil_append, crL_cons (by decide)]
    rfl
  | n + 1, [], y, h => by
    rw [List.nil_append, crL_cons (by decide)]
    rfl
  | n + 1, c :: a, y, h => by
    simp only [List.length_cons] at h
    by_cases hc : c = 13
    · subst hc
      rw [List.cons_append, crL_cr, crL_cr]
      cases a with
      | nil =>
        have e1 : (if ([] ++ 59 :: y : List UInt8).head? = some 10 then ([] ++ 59 :: y : List UInt8).drop 1 else [] ++ 59 :: y) = 59 :: y := if_neg (by simp)
        rw [e1, crL_cons (by decide)]
        simp [crL]
      | cons d a =>
        simp only [List.cons_append, List.head?_cons, Option.some.injEq, List.drop_succ_cons, List.drop_zero]
        simp only [List.length_cons] at h
        by_cases hd : d = 10
        · rw [if_pos hd, if_pos hd, crL_app n a y (by omega)]
        · rw [if_neg hd, if_neg hd]
          have := crL_app n (d :: a) y (by simp; omega)
          rw [List.cons_append] at this
          rw [this]
    · rw [List.cons_append, crL_cons hc, crL_cons hc, crL_app n a y (by omega)]
      rfl
theorem crL_id : ∀ (a : List UInt8), (∀ c ∈ a, c ≠ 13) → crL a = a
  | [], _ => rfl
  | c :: a, h => by rw [crL_cons (h c (by simp)), crL_id a (fun x hx => h x (by simp [hx]))]
theorem crL_has : ∀ (n : Nat) (a : List UInt8), a.length ≤ n → 13 ∈ a → 10 ∈ crL a
  | 0, a, h, hm => by
    obtain rfl : a = [] := List.eq_nil_of_length_eq_zero (by omega)
    cases hm
  | n + 1, [], h, hm => by cases hm
  | n + 1, c :: a, h, hm => by
    by_cases hc : c = 13
    · subst hc
      rw [crL_cr]
      simp
    · rw [crL_cons hc]
      simp only [List.length_cons] at h
      rcases List.mem_cons.1 hm with e | e
      · exact absurd e.symm hc
      · exact List.mem_cons_of_mem _ (crL_has n a (by omega) e)
theorem crL_sub (x : UInt8) (hx : x ≠ 10) : ∀ (n : Nat) (a : List UInt8), a.length ≤ n → x ∈ crL a → x ∈ a
  | 0, a, h, hm => by
    obtain rfl : a = [] := List.eq_nil_of_length_eq_zero (by omega)
    cases hm
  | n + 1, [], h, hm => by cases hm
  | n + 1, c :: a, h, hm => by
    simp only [List.length_cons] at h
    by_cases hc : c = 13
    · subst hc
      rw [crL_cr] at hm
      rcases List.mem_cons.1 hm with e | e
      · exact absurd e hx
      · split at e
        · have := crL_sub x hx n (a.drop 1) (by simp; omega) e
          exact List.mem_cons_of_mem _ (List.mem_of_mem_drop this)
        · exact List.mem_cons_of_mem _ (crL_sub x hx n a (by omega) e)
    · rw [crL_cons hc] at hm
      rcases List.mem_cons.1 hm with e | e
      · subst e; simp
      · exact List.mem_cons_of_mem _ (crL_sub x hx n a (by omega) e)
theorem ent_cr (a : List UInt8) : entL (crL a) = entL a := by
  by_cases h : 13 ∈ a
  · have h1 : entL a = none := by
      cases e : entL a with
      | none => rfl
      | some t => exact absurd rfl ((ent_ok e).2 13 h).2.2.2.1
    have h2 : entL (crL a) = none := by
      cases e : entL (crL a) with
      | none => rfl
      | some t => exact absurd rfl ((ent_ok e).2 10 (crL_has a.length a (Nat.le_refl _) h)).2.2.2.2
    rw [h1, h2]
  · rw [crL_id a (fun c hc e => h (e ▸ hc))]
/-- Line ends may be turned on the way, or ahead of all. -/
theorem unR_eq : ∀ (f : Nat) (l : List UInt8), l.length ≤ f → unR f l = une l
  | 0, l, h => by
    obtain rfl : l = [] := List.eq_nil_of_length_eq_zero (by omega)
    rfl
  | f + 1, [], h => rfl
  | f + 1, c :: r, h => by
    simp only [List.length_cons] at h
    simp only [unR, une]
    by_cases hc : c = 13
    · subst hc
      rw [if_pos rfl, crL_cr, unL_cons _ _ (by decide)]
      split
      · rw [unR_eq f (r.drop 1) (by simp; omega)]; rfl
      · rw [unR_eq f r (by omega)]; rfl
    · rw [if_neg hc, crL_cons hc]
      by_cases ha : c = 38
      · subst ha
        rw [if_pos rfl, unL_amp]
        by_cases hn : (upto 59 r).length = r.length
        · have hm := upto_none.1 hn
          have hm2 : 59 ∉ crL r := fun e => hm (crL_sub 59 (by decide) r.length r (Nat.le_refl _) e)
          rw [if_pos hn, if_pos (upto_none.2 hm2)]
        · have hs := upto_split hn
          have hcr : crL r = crL (upto 59 r) ++ 59 :: crL (r.drop ((upto 59 r).length + 1)) := by
            conv => lhs; rw [hs]
            exact crL_app _ _ _ (Nat.le_refl _)
          have hnm : 59 ∉ crL (upto 59 r) := fun e => upto_not 59 r (crL_sub 59 (by decide) _ _ (Nat.le_refl _) e)
          have hu : upto 59 (crL r) = crL (upto 59 r) := by rw [hcr, upto_app hnm]
          rw [if_neg hn, if_neg (by rw [hu, hcr]; simp), hu, ent_cr]
          congr 1
          funext t
          rw [unR_eq f _ (by simp; omega)]
          have hd : (crL r).drop ((crL (upto 59 r)).length + 1) = crL (r.drop ((upto 59 r).length + 1)) := by
            rw [hcr, List.drop_append]
            simp
          rw [hd]
          rfl
      · rw [if_neg ha, unL_cons _ _ ha, unR_eq f r (by omega)]
        rfl
end Go.Proofs.YtohkocknpmnakaaGreatDoor
/-
  Line ends: two replacements one behind the other make them line feeds.
-/
namespace Go.Proofs.YtohkocknpmnakaaGreatDoor

def rpF (old new : List UInt8) : Nat → List UInt8 → List UInt8
  | 0, s => s
  | f + 1, s => if Lib.index s old == -1 then s else s.take (Lib.index s old).toNat ++ new ++ rpF old new f (s.drop ((Lib.index s old).toNat + old.length))
def bb (old new : List UInt8) : Nat → List UInt8 → List UInt8
  | 0, s => s
  | _ + 1, [] => []
  | g + 1, b :: l => if old.isPrefixOf (b :: l) then new ++ bb old new g ((b :: l).drop old.length) else b :: bb old new g l
theorem rep_rpF (old new : List UInt8) : ∀ (f : Nat) (s : List UInt8), Lib.replaceK old new (Lib.countFrom old f s) s = rpF old new f s
  | 0, s => rfl
  | f + 1, s => by
    simp only [rpF, Lib.countFrom]
    by_cases h : Lib.index s old == -1
    · rw [if_pos h, if_pos h]
      rfl
    · rw [if_neg h, if_neg h, Nat.add_comm, Lib.replaceK, if_neg h, rep_rpF old new f]
theorem rpF_bb (old new : List UInt8) (ho : 0 < old.length) : ∀ (g f : Nat) (s : List UInt8), s.length ≤ g → s.length < f → rpF old new f s = bb old new g s
  | 0, f, s, h1, h2 => by
    obtain rfl : s = [] := List.eq_nil_of_length_eq_zero (by omega)
    cases f with
    | zero => rfl
    | succ f =>
      have : Lib.index [] old = -1 := by
        cases old with
        | nil => simp at ho
        | cons a r => rfl
      simp [rpF, this, bb]
  | g + 1, f, [], h1, h2 => by
    cases f with
    | zero => rfl
    | succ f =>
      have : Lib.index [] old = -1 := by
        cases old with
        | nil => simp at ho
        | cons a r => rfl
      simp [rpF, this, bb]
  | g + 1, 0, b :: l, h1, h2 => by simp at h2
  | g + 1, f + 1, b :: l, h1, h2 => by
    simp only [List.length_cons] at h1 h2
    by_cases hp : old.isPrefixOf (b :: l)
    · have hi : Lib.index (b :: l) old = 0 := by unfold Lib.index; rw [if_pos hp]
      have := rpF_bb old new ho g f ((b :: l).drop old.length) (by simp; omega) (by simp; omega)
      simp only [rpF, bb, hi, if_pos hp]
      rw [← this]
      simp
    · have hge := Lib.index_ge l old
      have ih := rpF_bb old new ho g (f + 1) l (by omega) (by omega)
      simp only [bb, if_neg hp]
      rw [← ih]
      have hi : Lib.index (b :: l) old = if Lib.index l old == -1 then -1 else Lib.index l old + 1 := by
        conv => lhs; unfold Lib.index
        rw [if_neg hp]
      simp only [rpF]
      by_cases hm : Lib.index l old = -1
      · rw [hi, hm]
        simp
      · have hb : (Lib.index l old == -1) = false := by simp [hm]
        obtain ⟨i, hi2⟩ : ∃ i : Nat, Lib.index l old = i := ⟨(Lib.index l old).toNat, by omega⟩
        rw [hi, hb, hi2]
        have e1 : ((((i : Int) + 1)) == -1) = false := by rw [beq_eq_false_iff_ne]; omega
        have e2 : ((i : Int) + 1).toNat = i + 1 := by omega
        have e3 : ((i : Int) == -1) = false := by rw [beq_eq_false_iff_ne]; omega
        simp only [Bool.false_eq_true, if_false, e1, e2, Int.toNat_natCast, List.take_succ_cons, List.cons_append]
        rw [show i + 1 + old.length = (i + old.length) + 1 by omega, List.drop_succ_cons]
theorem replaceAll_bb (s old new : List UInt8) (ho : 0 < old.length) (hn : old ≠ new) (g : Nat) (hg : s.length ≤ g) : Lib.replaceAll s old new = bb old new g s := by
  unfold Lib.replaceAll Lib.replace
  rw [if_neg (by simpa using hn)]
  have : Lib.replaceNum s old (-1) = Lib.countFrom old (s.length + 1) s := by
    unfold Lib.replaceNum
    rw [if_pos (.inl (by decide))]
    rfl
  rw [this, rep_rpF]
  exact rpF_bb old new ho g _ s hg (by omega)
theorem bb_len (old : List UInt8) (x : UInt8) (ho : 0 < old.length) : ∀ (g : Nat) (s : List UInt8), s.length ≤ g → (bb old [x] g s).length ≤ s.length
  | 0, s, _ => by simp [bb]
  | g + 1, [], _ => by simp [bb]
  | g + 1, b :: l, h => by
    simp only [List.length_cons] at h
    simp only [bb]
    split
    · have := bb_len old x ho g ((b :: l).drop old.length) (by simp; omega)
      simp only [List.length_append, List.length_cons, List.length_nil, List.length_drop] at this ⊢
      omega
    · have := bb_len old x ho g l (by omega)
      simp only [List.length_cons]
      omega
theorem bb_cr : ∀ (g m : Nat) (s : List UInt8), s.length ≤ g → s.length ≤ m → bb [13] [10] m (bb [13, 10] [10] g s) = crL s
  | 0, m, s, h1, h2 => by
    obtain rfl : s = [] := List.eq_nil_of_length_eq_zero (by omega)
    cases m <;> rfl
  | g + 1, m, [], h1, h2 => by cases m <;> rfl
  | g + 1, 0, b :: l, h1, h2 => by simp at h2
  | g + 1, m + 1, b :: l, h1, h2 => by
    simp only [List.length_cons] at h1 h2
    by_cases hb : b = 13
    · subst hb
      cases l with
      | nil => cases g <;> cases m <;> rfl
      | cons d r =>
        simp only [List.length_cons] at h1 h2
        by_cases hd : d = 10
        · subst hd
          have := bb_cr g m r (by omega) (by omega)
          rw [crL_cr]
          simpa [bb, List.isPrefixOf] using this
        · have hp : ([13, 10] : List UInt8).isPrefixOf (13 :: d :: r) = false := by simp [List.isPrefixOf, Ne.symm hd]
          have := bb_cr g m (d :: r) (by simp; omega) (by simp; omega)
          rw [crL_cr, if_neg (by simp [hd]), ← this]
          simp only [bb, hp, Bool.false_eq_true, if_false]
          simp [List.isPrefixOf]
    · have hp : ([13, 10] : List UInt8).isPrefixOf (b :: l) = false := by simp [List.isPrefixOf, Ne.symm hb]
      have := bb_cr g m l (by omega) (by omega)
      rw [crL_cons hb, ← this]
      simp only [bb, hp, Bool.false_eq_true, if_false]
      simp [List.isPrefixOf, Ne.symm hb]
/-- Both replacements. -/
theorem replace_cr (s : List UInt8) : Lib.replaceAll (Lib.replaceAll s [13, 10] [10]) [13] [10] = crL s := by
  rw [replaceAll_bb s [13, 10] [10] (by decide) (by decide) s.length (Nat.le_refl _)]
  rw [replaceAll_bb _ [13] [10] (by decide) (by decide) s.length (bb_len _ _ (by decide) _ _ (Nat.le_refl _))]
  exact bb_cr _ _ s (Nat.le_refl _) (Nat.le_refl _)
theorem replace_len (s : List UInt8) : (Lib.replaceAll s [13, 10] [10]).length ≤ s.length := by
  rw [replaceAll_bb s [13, 10] [10] (by decide) (by decide) s.length (Nat.le_refl _)]
  exact bb_len _ _ (by decide) _ _ (Nat.le_refl _)
end Go.Proofs.YtohkocknpmnakaaGreatDoor
