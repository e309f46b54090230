/-
  Keys of the map: mathematics, without a walk.
-/
import Derived.Test.YtaagnckppdaljaaDoorEnRefPack
import Derived.Test.YtaagnckppdaljaaDoorEnBack
namespace Go.Proofs.YtaagnckppdaljaaDoor
open Go.RowKit

/-- Texts that have no byte 0. -/
def nz (l : List UInt8) : Prop := (0 : UInt8) ∉ l
theorem nz_cons {a : UInt8} {l : List UInt8} : nz (a :: l) ↔ a ≠ 0 ∧ nz l := by
  unfold nz
  simp only [List.mem_cons, not_or, ne_eq]
  exact ⟨fun h => ⟨fun e => h.1 e.symm, h.2⟩, fun h => ⟨fun e => h.1 e.symm, h.2⟩⟩
theorem u0_lt {a : UInt8} (h : a ≠ 0) : decide ((0 : UInt8) < a) = true ∧ decide (a < 0) = false ∧ (a == 0) = false ∧ ((0 : UInt8) == a) = false := by
  have h' : a.toNat ≠ 0 := fun e => h (UInt8.toNat_inj.1 (by rw [e]; rfl))
  refine ⟨decide_eq_true ?_, decide_eq_false ?_, ?_, ?_⟩
  · rw [UInt8.lt_iff_toNat_lt]
    show 0 < a.toNat
    omega
  · rw [UInt8.lt_iff_toNat_lt]
    show ¬ a.toNat < 0
    omega
  · simpa using h
  · simpa using fun e => h e.symm
theorem less_sep : ∀ (x y r t : List UInt8), nz x → nz y → Op.bytesLess (x ++ 0 :: r) (y ++ 0 :: t) = (Op.bytesLess x y || (x == y && Op.bytesLess r t))
  | [], [], r, t, _, _ => by
    show (decide ((0 : UInt8) < 0) || ((0 : UInt8) == 0 && Op.bytesLess r t)) = (false || ((([] : List UInt8) == []) && Op.bytesLess r t))
    simp
  | [], b :: y, r, t, _, hy => by
    have h := u0_lt (nz_cons.1 hy).1
    show (decide ((0 : UInt8) < b) || ((0 : UInt8) == b && Op.bytesLess r (y ++ 0 :: t))) = (true || _)
    rw [h.1]
    rfl
  | a :: x, [], r, t, hx, _ => by
    have h := u0_lt (nz_cons.1 hx).1
    show (decide (a < 0) || (a == 0 && Op.bytesLess (x ++ 0 :: r) t)) = (Op.bytesLess (a :: x) [] || ((a :: x == []) && _))
    rw [h.2.1, h.2.2.1]
    rfl
  | a :: x, b :: y, r, t, hx, hy => by
    have ih := less_sep x y r t (nz_cons.1 hx).2 (nz_cons.1 hy).2
    show (decide (a < b) || (a == b && Op.bytesLess (x ++ 0 :: r) (y ++ 0 :: t))) = ((decide (a < b) || (a == b && Op.bytesLess x y)) || ((a == b && x == y) && Op.bytesLess r t))
    rw [ih]
    cases decide (a < b) <;> cases (a == b) <;> cases Op.bytesLess x y <;> cases (x == y) <;> cases Op.bytesLess r t <;> rfl

/-- Two ways to part a text at a 0: one of them, if no other 0 is there. -/
theorem part_nz : ∀ (a b k l : List UInt8), nz b → nz l → a ++ 0 :: k = b ++ 0 :: l → a = b ∧ k = l
  | [], [], k, l, _, _, h => by simpa using h
  | [], b :: bs, k, l, hb, _, h => by
    simp only [List.nil_append, List.cons_append, List.cons.injEq] at h
    exact absurd h.1.symm (nz_cons.1 hb).1
  | a :: a2, [], k, l, _, hl, h => by
    simp only [List.nil_append, List.cons_append, List.cons.injEq] at h
    exact absurd (h.2 ▸ by simp : (0 : UInt8) ∈ l) hl
  | a :: a2, b :: bs, k, l, hb, hl, h => by
    simp only [List.cons_append, List.cons.injEq] at h
    obtain ⟨e1, e2⟩ := part_nz a2 bs k l (nz_cons.1 hb).2 hl h.2
    exact ⟨by rw [h.1, e1], e2⟩

/-- A key of an object or an upload: its kind, the two names, its number. -/
def nk (c : UInt8) (b k : List UInt8) (n : Nat) : List UInt8 := c :: (b ++ 0 :: (k ++ 0 :: En.be n 8))
def pk (s n : Nat) : List UInt8 := 80 :: (En.be s 8 ++ En.be n 8)

theorem append_len {a b x y : List UInt8} (h : a ++ x = b ++ y) (hl : x.length = y.length) : a = b ∧ x = y := by
  have h1 : a.length = b.length := by have := congrArg List.length h; simp only [List.length_append] at this; omega
  exact List.append_inj h h1

theorem be_inj {n m : Nat} (hn : n < 18446744073709551616) (hm : m < 18446744073709551616) (h : En.be n 8 = En.be m 8) : n = m := by
  have e1 := (En.put_get n hn).1
  have e2 := (En.put_get m hm).1
  rw [h] at e1
  omega

/-- Numbers in eight bytes. -/
def gnOk (l : List UInt8) : Bool := En.g64Ok l && decide (En.g64 l ≤ 9223372036854775807)
def gn (l : List UInt8) : Nat := if gnOk l then En.g64 l else 0
theorem gn_be {n : Nat} (h : n ≤ 9223372036854775807) : gnOk (En.be n 8) = true ∧ gn (En.be n 8) = n := by
  obtain ⟨e1, e2⟩ := En.put_get n (by omega)
  have e3 : gnOk (En.be n 8) = true := by
    unfold gnOk
    rw [e2, e1]
    simpa using h
  exact ⟨e3, by unfold gn; rw [if_pos e3, e1]⟩
theorem vl_nil (l : List UInt8) : ∀ k, En.vl l k = En.vl l k := fun _ => rfl
theorem be_vl : ∀ (l : List UInt8), l.length = 8 → En.be (En.vl l 8) 8 = l
  | [a, b, c, d, e, f, g, h], _ => by
    have ha := a.toNat_lt
    have hb := b.toNat_lt
    have hc := c.toNat_lt
    have hd := d.toNat_lt
    have he := e.toNat_lt
    have hf := f.toNat_lt
    have hg := g.toNat_lt
    have hh := h.toNat_lt
    have hv : En.vl [a, b, c, d, e, f, g, h] 8 = ((((((a.toNat * 256 + b.toNat) * 256 + c.toNat) * 256 + d.toNat) * 256 + e.toNat) * 256 + f.toNat) * 256 + g.toNat) * 256 + h.toNat := by
      simp [En.vl]
    have hu : ∀ (x : UInt8) (m : Nat), m % 256 = x.toNat → UInt8.ofNat m = x := fun x m hm => UInt8.toNat_inj.1 (by rw [UInt8.toNat_ofNat']; exact hm)
    rw [hv]
    simp only [En.be, List.cons.injEq, and_true]
    refine ⟨hu _ _ ?_, hu _ _ ?_, hu _ _ ?_, hu _ _ ?_, hu _ _ ?_, hu _ _ ?_, hu _ _ ?_, hu _ _ ?_⟩ <;> simp only [Nat.reducePow, Nat.reduceMul] <;> omega
theorem gn_of {l : List UInt8} (h : gnOk l = true) : l = En.be (gn l) 8 ∧ gn l ≤ 9223372036854775807 := by
  have h0 := h
  unfold gnOk En.g64Ok at h
  simp only [Bool.and_eq_true, decide_eq_true_eq] at h
  unfold gn
  rw [if_pos h0]
  refine ⟨?_, h.2⟩
  have : En.g64 l = En.vl l 8 := (En.g64_yes h.1).1
  rw [this, be_vl l h.1]
end Go.Proofs.YtaagnckppdaljaaDoor
