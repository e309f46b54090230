/-
  There and back, as lists: hexadecimal digits, numbers in eight bytes.
-/
import Derived.Test.YtbhiabcgjnfpoaaGreatDoorRun01
import Derived.Test.YtbhiabcgjnfpoaaGreatDoorRun02
namespace Go.Proofs.YtbhiabcgjnfpoaaGreatDoor.En

theorem hex_at : ∀ (l : List UInt8) (i : Nat) (h : i < l.length), (hexL l).getD (2 * i) 0 = UInt8.ofNat (hd ((l[i].toNat : Int) / 16)).toNat ∧ (hexL l).getD (2 * i + 1) 0 = UInt8.ofNat (hd ((l[i].toNat : Int) % 16)).toNat
  | [], i, h => by simp at h
  | a :: r, 0, _ => ⟨rfl, rfl⟩
  | a :: r, i + 1, h => by
    have ih := hex_at r i (by simpa using h)
    have e : hexL (a :: r) = UInt8.ofNat (hd ((a.toNat : Int) / 16)).toNat :: UInt8.ofNat (hd ((a.toNat : Int) % 16)).toNat :: hexL r := rfl
    rw [e, show 2 * (i + 1) = 2 * i + 2 by omega, show 2 * i + 2 + 1 = (2 * i + 1) + 2 by omega]
    exact ih
theorem hv_hd : ∀ v : Nat, v < 16 → hvOk (hd (v : Int)) = true ∧ hvN (hd (v : Int)) = (v : Int) := by decide +kernel
theorem hex_back (l : List UInt8) : uhOk (hexL l) = true ∧ uhL (hexL l) = l := by
  have hl := hexL_length l
  have key : ∀ i (h : i < l.length), pOk (hexL l) i = true ∧ pv (hexL l) i = l[i] := by
    intro i h
    obtain ⟨e1, e2⟩ := hex_at l i h
    have hc := l[i].toNat_lt
    have x1 := hv_hd (l[i].toNat / 16) (by omega)
    have x2 := hv_hd (l[i].toNat % 16) (by omega)
    have n1 : nth (hexL l) (2 * i) = hd ((l[i].toNat / 16 : Nat) : Int) := by rw [nth, e1, hd_cell (by omega) (by omega)]; rfl
    have n2 : nth (hexL l) (2 * i + 1) = hd ((l[i].toNat % 16 : Nat) : Int) := by rw [nth, e2, hd_cell (by omega) (by omega)]; rfl
    refine ⟨by rw [pOk, n1, n2, x1.1, x2.1]; rfl, ?_⟩
    rw [pv, n1, n2, x1.2, x2.2]
    apply UInt8.toNat_inj.1
    rw [UInt8.toNat_ofNat']
    omega
  have hok : uhOk (hexL l) = true := uhOk_all (by omega) (fun i hi => (key i (by omega)).1)
  refine ⟨hok, ?_⟩
  rw [uhL_yes hok, hl, show 2 * l.length / 2 = l.length by omega]
  apply List.ext_getElem
  · rw [prs_length]
  · intro i h1 h2
    have := (key i h2).2
    simpa [prs] using this

theorem put_get (n : Nat) (hn : n < 18446744073709551616) : g64 (be n 8) = n ∧ g64Ok (be n 8) = true := by
  have h := g64_yes (be_length n 8)
  refine ⟨?_, h.2⟩
  rw [h.1]
  simp [vl, be]
  omega

theorem less_step {B q q' r r' : Nat} (hr : r < B) (hr' : r' < B) : decide (B * q + r < B * q' + r') = (decide (q < q') || (decide (q = q') && decide (r < r'))) := by
  rcases Nat.lt_trichotomy q q' with h | h | h
  · have h1 : B * (q + 1) ≤ B * q' := Nat.mul_le_mul_left B h
    rw [Nat.mul_add] at h1
    have : B * q + r < B * q' + r' := by omega
    simp [this, h]
  · subst h
    simp
  · have h1 : B * (q' + 1) ≤ B * q := Nat.mul_le_mul_left B h
    rw [Nat.mul_add] at h1
    have h2 : ¬ B * q + r < B * q' + r' := by omega
    have h3 : ¬ q < q' := by omega
    have h4 : ¬ q = q' := by omega
    rw [decide_eq_false h2, decide_eq_false h3, decide_eq_false h4]
    rfl
theorem byte_lt (a b : Nat) : (UInt8.ofNat a < UInt8.ofNat b) ↔ a % 256 < b % 256 := by
  rw [UInt8.lt_iff_toNat_lt, UInt8.toNat_ofNat', UInt8.toNat_ofNat']
theorem byte_beq (a b : Nat) : (UInt8.ofNat a == UInt8.ofNat b) = decide (a % 256 = b % 256) := by
  rw [Bool.eq_iff_iff, beq_iff_eq, decide_eq_true_eq, ← UInt8.toNat_inj, UInt8.toNat_ofNat', UInt8.toNat_ofNat']
theorem less_be : ∀ (j n k : Nat), Op.bytesLess (be n j) (be k j) = decide (n % 2 ^ (8 * j) < k % 2 ^ (8 * j))
  | 0, n, k => by simp [be, Op.bytesLess, Nat.mod_one]
  | j + 1, n, k => by
    have ih := less_be j n k
    have hB : 0 < 2 ^ (8 * j) := Nat.two_pow_pos _
    have e : 2 ^ (8 * (j + 1)) = 2 ^ (8 * j) * 256 := by rw [show 8 * (j + 1) = 8 * j + 8 by omega, Nat.pow_add]
    rw [be, be, Op.bytesLess, ih, e, Nat.mod_mul, Nat.mod_mul, Nat.add_comm (n % _), Nat.add_comm (k % _), less_step (Nat.mod_lt _ hB) (Nat.mod_lt _ hB), byte_beq]
    congr 1
theorem put_less (n k : Nat) (hn : n < 18446744073709551616) (hk : k < 18446744073709551616) : Op.bytesLess (be n 8) (be k 8) = decide (n < k) := by
  rw [less_be 8 n k, Nat.mod_eq_of_lt (show n < 2 ^ (8 * 8) from hn), Nat.mod_eq_of_lt (show k < 2 ^ (8 * 8) from hk)]

end Go.Proofs.YtbhiabcgjnfpoaaGreatDoor.En
/-
  Keys of the map: mathematics, without a walk.
-/
namespace Go.Proofs.YtbhiabcgjnfpoaaGreatDoor
open Go.RowKit

/-- Texts that have no byte 0. -/
def nz (l : List UInt8) : Prop := (0 : UInt8) ∉ l
theorem nz_cons {a : UInt8} {l : List UInt8} : nz (a :: l) ↔ a ≠ 0 ∧ nz l := by
  unfold nz
  simp only [List.mem_cons, not_or, ne_eq]
  exact ⟨fun h => ⟨fun e => h.1 e.symm, h.2⟩, fun h => ⟨fun e => h.1 e.symm, h.2⟩⟩
theorem u0_lt {a : UInt8} (h : a ≠ 0) : decide ((0 : UInt8) < a) = true ∧ decide (a < 0) = false ∧ (a == 0) = false ∧ ((0 : UInt8) == a) = false := by
  have h' : a.toNat ≠ 0 := fun e => h (UInt8.toNat_inj.1 (by rw [e]; rfl))
  refine ⟨decide_eq_true ?_, decide_eq_false ?_, ?_, ?_⟩
  · rw [UInt8.lt_iff_toNat_lt]
    show 0 < a.toNat
    omega
  · rw [UInt8.lt_iff_toNat_lt]
    show ¬ a.toNat < 0
    omega
  · simpa using h
  · simpa using fun e => h e.symm
theorem less_sep : ∀ (x y r t : List UInt8), nz x → nz y → Op.bytesLess (x ++ 0 :: r) (y ++ 0 :: t) = (Op.bytesLess x y || (x == y && Op.bytesLess r t))
  | [], [], r, t, _, _ => by
    show (decide ((0 : UInt8) < 0) || ((0 : UInt8) == 0 && Op.bytesLess r t)) = (false || ((([] : List UInt8) == []) && Op.bytesLess r t))
    simp
  | [], b :: y, r, t, _, hy => by
    have h := u0_lt (nz_cons.1 hy).1
    show (decide ((0 : UInt8) < b) || ((0 : UInt8) == b && Op.bytesLess r (y ++ 0 :: t))) = (true || _)
    rw [h.1]
    rfl
  | a :: x, [], r, t, hx, _ => by
    have h := u0_lt (nz_cons.1 hx).1
    show (decide (a < 0) || (a == 0 && Op.bytesLess (x ++ 0 :: r) t)) = (Op.bytesLess (a :: x) [] || ((a :: x == []) && _))
    rw [h.2.1, h.2.2.1]
    rfl
  | a :: x, b :: y, r, t, hx, hy => by
    have ih := less_sep x y r t (nz_cons.1 hx).2 (nz_cons.1 hy).2
    show (decide (a < b) || (a == b && Op.bytesLess (x ++ 0 :: r) (y ++ 0 :: t))) = ((decide (a < b) || (a == b && Op.bytesLess x y)) || ((a == b && x == y) && Op.bytesLess r t))
    rw [ih]
    cases decide (a < b) <;> cases (a == b) <;> cases Op.bytesLess x y <;> cases (x == y) <;> cases Op.bytesLess r t <;> rfl

/-- Two ways to part a text at a 0: one of them, if no other 0 is there. -/
theorem part_nz : ∀ (a b k l : List UInt8), nz b → nz l → a ++ 0 :: k = b ++ 0 :: l → a = b ∧ k = l
  | [], [], k, l, _, _, h => by simpa using h
  | [], b :: bs, k, l, hb, _, h => by
    simp only [List.nil_append, List.cons_append, List.cons.injEq] at h
    exact absurd h.1.symm (nz_cons.1 hb).1
  | a :: a2, [], k, l, _, hl, h => by
    simp only [List.nil_append, List.cons_append, List.cons.injEq] at h
    exact absurd (h.2 ▸ by simp : (0 : UInt8) ∈ l) hl
  | a :: a2, b :: bs, k, l, hb, hl, h => by
    simp only [List.cons_append, List.cons.injEq] at h
    obtain ⟨e1, e2⟩ := part_nz a2 bs k l (nz_cons.1 hb).2 hl h.2
    exact ⟨by rw [h.1, e1], e2⟩

/-- A key of an object or an upload: its kind, the two names, its number. -/
def nk (c : UInt8) (b k : List UInt8) (n : Nat) : List UInt8 := c :: (b ++ 0 :: (k ++ 0 :: En.be n 8))
def pk (s n : Nat) : List UInt8 := 80 :: (En.be s 8 ++ En.be n 8)

theorem append_len {a b x y : List UInt8} (h : a ++ x = b ++ y) (hl : x.length = y.length) : a = b ∧ x = y := by
  have h1 : a.length = b.length := by have := congrArg List.length h; simp only [List.length_append] at this; omega
  exact List.append_inj h h1

theorem be_inj {n m : Nat} (hn : n < 18446744073709551616) (hm : m < 18446744073709551616) (h : En.be n 8 = En.be m 8) : n = m := by
  have e1 := (En.put_get n hn).1
  have e2 := (En.put_get m hm).1
  rw [h] at e1
  omega

/-- Numbers in eight bytes. -/
def gnOk (l : List UInt8) : Bool := En.g64Ok l && decide (En.g64 l ≤ 9223372036854775807)
def gn (l : List UInt8) : Nat := if gnOk l then En.g64 l else 0
theorem gn_be {n : Nat} (h : n ≤ 9223372036854775807) : gnOk (En.be n 8) = true ∧ gn (En.be n 8) = n := by
  obtain ⟨e1, e2⟩ := En.put_get n (by omega)
  have e3 : gnOk (En.be n 8) = true := by
    unfold gnOk
    rw [e2, e1]
    simpa using h
  exact ⟨e3, by unfold gn; rw [if_pos e3, e1]⟩
theorem vl_nil (l : List UInt8) : ∀ k, En.vl l k = En.vl l k := fun _ => rfl
theorem be_vl : ∀ (l : List UInt8), l.length = 8 → En.be (En.vl l 8) 8 = l
  | [a, b, c, d, e, f, g, h], _ => by
    have ha := a.toNat_lt
    have hb := b.toNat_lt
    have hc := c.toNat_lt
    have hd := d.toNat_lt
    have he := e.toNat_lt
    have hf := f.toNat_lt
    have hg := g.toNat_lt
    have hh := h.toNat_lt
    have hv : En.vl [a, b, c, d, e, f, g, h] 8 = ((((((a.toNat * 256 + b.toNat) * 256 + c.toNat) * 256 + d.toNat) * 256 + e.toNat) * 256 + f.toNat) * 256 + g.toNat) * 256 + h.toNat := by
      simp [En.vl]
    have hu : ∀ (x : UInt8) (m : Nat), m % 256 = x.toNat → UInt8.ofNat m = x := fun x m hm => UInt8.toNat_inj.1 (by rw [UInt8.toNat_ofNat']; exact hm)
    rw [hv]
    simp only [En.be, List.cons.injEq, and_true]
    refine ⟨hu _ _ ?_, hu _ _ ?_, hu _ _ ?_, hu _ _ ?_, hu _ _ ?_, hu _ _ ?_, hu _ _ ?_, hu _ _ ?_⟩ <;> simp only [Nat.reducePow, Nat.reduceMul] <;> omega
theorem gn_of {l : List UInt8} (h : gnOk l = true) : l = En.be (gn l) 8 ∧ gn l ≤ 9223372036854775807 := by
  have h0 := h
  unfold gnOk En.g64Ok at h
  simp only [Bool.and_eq_true, decide_eq_true_eq] at h
  unfold gn
  rw [if_pos h0]
  refine ⟨?_, h.2⟩
  have : En.g64 l = En.vl l 8 := (En.g64_yes h.1).1
  rw [this, be_vl l h.1]
end Go.Proofs.YtbhiabcgjnfpoaaGreatDoor
