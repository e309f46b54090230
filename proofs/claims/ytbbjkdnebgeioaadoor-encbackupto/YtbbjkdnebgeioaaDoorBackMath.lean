/-
  There and back, as lists: hexadecimal digits, packed lists, numbers in eight bytes, decimal digits.
-/
import Derived.Test.YtbbjkdnebgeioaaDoorHex
import Derived.Test.YtbbjkdnebgeioaaDoorUnb64b
import Derived.Test.YtbbjkdnebgeioaaDoorRound
import Derived.Test.YtbbjkdnebgeioaaDoorTexts
import Derived.Test.YtbbjkdnebgeioaaDoorRefInt
namespace Go.Proofs.YtbbjkdnebgeioaaDoor

theorem hex_at : ∀ (l : List UInt8) (i : Nat) (h : i < l.length), (hexL l).getD (2 * i) 0 = UInt8.ofNat (hd ((l[i].toNat : Int) / 16)).toNat ∧ (hexL l).getD (2 * i + 1) 0 = UInt8.ofNat (hd ((l[i].toNat : Int) % 16)).toNat
  | [], i, h => by simp at h
  | a :: r, 0, _ => ⟨rfl, rfl⟩
  | a :: r, i + 1, h => by
    have ih := hex_at r i (by simpa using h)
    have e : hexL (a :: r) = UInt8.ofNat (hd ((a.toNat : Int) / 16)).toNat :: UInt8.ofNat (hd ((a.toNat : Int) % 16)).toNat :: hexL r := rfl
    rw [e, show 2 * (i + 1) = 2 * i + 2 by omega, show 2 * i + 2 + 1 = (2 * i + 1) + 2 by omega]
    exact ih
theorem hv_hd : ∀ v : Nat, v < 16 → hvOk (hd (v : Int)) = true ∧ hvN (hd (v : Int)) = (v : Int) := by decide +kernel
theorem hex_back (l : List UInt8) : uhOk (hexL l) = true ∧ uhL (hexL l) = l := by
  have hl := hexL_length l
  have key : ∀ i (h : i < l.length), pOk (hexL l) i = true ∧ pv (hexL l) i = l[i] := by
    intro i h
    obtain ⟨e1, e2⟩ := hex_at l i h
    have hc := l[i].toNat_lt
    have x1 := hv_hd (l[i].toNat / 16) (by omega)
    have x2 := hv_hd (l[i].toNat % 16) (by omega)
    have n1 : nth (hexL l) (2 * i) = hd ((l[i].toNat / 16 : Nat) : Int) := by rw [nth, e1, hd_cell (by omega) (by omega)]; rfl
    have n2 : nth (hexL l) (2 * i + 1) = hd ((l[i].toNat % 16 : Nat) : Int) := by rw [nth, e2, hd_cell (by omega) (by omega)]; rfl
    refine ⟨by rw [pOk, n1, n2, x1.1, x2.1]; rfl, ?_⟩
    rw [pv, n1, n2, x1.2, x2.2]
    apply UInt8.toNat_inj.1
    rw [UInt8.toNat_ofNat']
    omega
  have hok : uhOk (hexL l) = true := uhOk_all (by omega) (fun i hi => (key i (by omega)).1)
  refine ⟨hok, ?_⟩
  rw [uhL_yes hok, hl, show 2 * l.length / 2 = l.length by omega]
  apply List.ext_getElem
  · rw [prs_length]
  · intro i h1 h2
    have := (key i h2).2
    simpa [prs] using this

theorem ub_back {b x : List UInt8} {ok : Bool} (h : UB (b64 b) x ok) : ok = true ∧ x = b := by
  cases ok
  · exact absurd rfl ((h.2 rfl).2 b)
  · exact ⟨rfl, b64_inj (h.1 rfl)⟩

theorem pack_eq {L M : List ByteArray} (hL : ∀ s ∈ L, s.size < 4294967296) (hM : ∀ s ∈ M, s.size < 4294967296) : (packL L == packL M) = eqS L M := by
  rw [Bool.eq_iff_iff, eqS, beq_iff_eq, beq_iff_eq]
  constructor
  · intro h
    have := unp_pack L hL
    rw [h, unp_pack M hM] at this
    simp only [Option.some.injEq] at this
    rw [this]
  · intro h
    have hinj : ∀ {L M : List ByteArray}, lst L = lst M → L = M := by
      intro L
      induction L with
      | nil => intro M h; cases M with | nil => rfl | cons a r => simp [lst] at h
      | cons a r ih =>
        intro M h
        cases M with
        | nil => simp [lst] at h
        | cons b r' =>
          simp only [lst, List.map_cons, List.cons.injEq] at h
          have e : a = b := by
            obtain ⟨⟨x⟩⟩ := a
            obtain ⟨⟨y⟩⟩ := b
            simp at h
            rw [h.1]
          rw [e, ih (M := r') h.2]
    rw [hinj h]

theorem put_get (n : Nat) (hn : n < 18446744073709551616) : g64 (be n 8) = n ∧ g64Ok (be n 8) = true := by
  have h := g64_yes (be_length n 8)
  refine ⟨?_, h.2⟩
  rw [h.1]
  simp [vl, be]
  omega

theorem less_step {B q q' r r' : Nat} (hr : r < B) (hr' : r' < B) : decide (B * q + r < B * q' + r') = (decide (q < q') || (decide (q = q') && decide (r < r'))) := by
  rcases Nat.lt_trichotomy q q' with h | h | h
  · have h1 : B * (q + 1) ≤ B * q' := Nat.mul_le_mul_left B h
    rw [Nat.mul_add] at h1
    have : B * q + r < B * q' + r' := by omega
    simp [this, h]
  · subst h
    simp
  · have h1 : B * (q' + 1) ≤ B * q := Nat.mul_le_mul_left B h
    rw [Nat.mul_add] at h1
    have h2 : ¬ B * q + r < B * q' + r' := by omega
    have h3 : ¬ q < q' := by omega
    have h4 : ¬ q = q' := by omega
    rw [decide_eq_false h2, decide_eq_false h3, decide_eq_false h4]
    rfl
theorem byte_lt (a b : Nat) : (UInt8.ofNat a < UInt8.ofNat b) ↔ a % 256 < b % 256 := by
  rw [UInt8.lt_iff_toNat_lt, UInt8.toNat_ofNat', UInt8.toNat_ofNat']
theorem byte_beq (a b : Nat) : (UInt8.ofNat a == UInt8.ofNat b) = decide (a % 256 = b % 256) := by
  rw [Bool.eq_iff_iff, beq_iff_eq, decide_eq_true_eq, ← UInt8.toNat_inj, UInt8.toNat_ofNat', UInt8.toNat_ofNat']
theorem less_be : ∀ (j n k : Nat), Op.bytesLess (be n j) (be k j) = decide (n % 2 ^ (8 * j) < k % 2 ^ (8 * j))
  | 0, n, k => by simp [be, Op.bytesLess, Nat.mod_one]
  | j + 1, n, k => by
    have ih := less_be j n k
    have hB : 0 < 2 ^ (8 * j) := Nat.two_pow_pos _
    have e : 2 ^ (8 * (j + 1)) = 2 ^ (8 * j) * 256 := by rw [show 8 * (j + 1) = 8 * j + 8 by omega, Nat.pow_add]
    rw [be, be, Op.bytesLess, ih, e, Nat.mod_mul, Nat.mod_mul, Nat.add_comm (n % _), Nat.add_comm (k % _), less_step (Nat.mod_lt _ hB) (Nat.mod_lt _ hB), byte_beq]
    congr 1
theorem put_less (n k : Nat) (hn : n < 18446744073709551616) (hk : k < 18446744073709551616) : Op.bytesLess (be n 8) (be k 8) = decide (n < k) := by
  rw [less_be 8 n k, Nat.mod_eq_of_lt (show n < 2 ^ (8 * 8) from hn), Nat.mod_eq_of_lt (show k < 2 ^ (8 * 8) from hk)]

theorem dig_bd {c : Nat} (h : c < 10) : nth [UInt8.ofNat (48 + c)] 0 = 48 + (c : Int) := by
  show ((UInt8.ofNat (48 + c)).toNat : Int) = _
  rw [UInt8.toNat_ofNat', Nat.mod_eq_of_lt (by omega)]
  omega
theorem nth_left {x y : List UInt8} {i : Nat} (h : i < x.length) : nth (x ++ y) i = nth x i := by
  rw [nth, nth, List.getD, List.getD, List.getElem?_append_left h]
theorem ival_left {x y : List UInt8} : ∀ k, k ≤ x.length → ival (x ++ y) k = ival x k
  | 0, _ => rfl
  | k + 1, h => by rw [ival, ival, ival_left k (by omega), nth_left (by omega)]
theorem dec_int : ∀ n : Nat, ival (Lib.decDigits n) (Lib.decDigits n).length = (n : Int) ∧ (∀ i, i < (Lib.decDigits n).length → dvOk (nth (Lib.decDigits n) i) = true) ∧ 1 ≤ (Lib.decDigits n).length ∧ (1 < (Lib.decDigits n).length → nth (Lib.decDigits n) 0 ≠ 48) ∧ (∀ m, n < 10 ^ m → 1 ≤ m → (Lib.decDigits n).length ≤ m) ∧ (1 ≤ n → nth (Lib.decDigits n) 0 ≠ 48) := by
  intro n
  induction n using Nat.strongRecOn with
  | _ n ih =>
    by_cases h : n < 10
    · have e : Lib.decDigits n = [UInt8.ofNat (48 + n)] := by rw [Lib.decDigits, dif_pos h]
      have hd := dig_bd h
      rw [e]
      refine ⟨?_, ?_, by simp, by simp, ?_, ?_⟩
      · show ival _ 1 = _
        rw [ival, ival, hd, (dv1 (by omega) (by omega)).1]
        omega
      · intro i hi
        obtain rfl : i = 0 := by simp at hi; omega
        rw [hd]
        exact (dv1 (by omega) (by omega)).2
      · intro m _ hm
        simpa using hm
      · intro h1
        rw [hd]
        omega
    · have e : Lib.decDigits n = Lib.decDigits (n / 10) ++ [UInt8.ofNat (48 + n % 10)] := by rw [Lib.decDigits, dif_neg h]
      obtain ⟨i1, i2, i3, i4, i5, i6⟩ := ih (n / 10) (by omega)
      have hd := dig_bd (c := n % 10) (by omega)
      have hl : (Lib.decDigits n).length = (Lib.decDigits (n / 10)).length + 1 := by rw [e]; simp
      have hlast : nth (Lib.decDigits n) (Lib.decDigits (n / 10)).length = 48 + ((n % 10 : Nat) : Int) := by
        rw [e, ← hd, nth, nth, List.getD, List.getD, List.getElem?_append_right (Nat.le_refl _), Nat.sub_self]
      refine ⟨?_, ?_, by omega, ?_, ?_, ?_⟩
      · rw [hl, ival, hlast, (dv1 (by omega) (by omega)).1]
        rw [e, ival_left _ (Nat.le_refl _), i1]
        omega
      · intro i hi
        by_cases hlt : i < (Lib.decDigits (n / 10)).length
        · rw [e, nth_left hlt]
          exact i2 i hlt
        · obtain rfl : i = (Lib.decDigits (n / 10)).length := by omega
          rw [hlast]
          exact (dv1 (by omega) (by omega)).2
      · intro _
        rw [e, nth_left (by omega)]
        exact i6 (by omega)
      · intro m hm h1
        rw [hl]
        match m, h1 with
        | 1, _ => simp at hm; omega
        | m + 2, _ =>
          have := i5 (m + 1) (by rw [Nat.pow_succ] at hm; omega) (by omega)
          omega
      · intro _
        rw [e, nth_left (by omega)]
        exact i6 (by omega)
theorem int_text (n : Nat) (hn : n < 1000000000000000000) : intOk (Lib.decDigits n) = true ∧ intV (Lib.decDigits n) = (n : Int) := by
  obtain ⟨i1, i2, i3, i4, i5, _⟩ := dec_int n
  have hok : intOk (Lib.decDigits n) = true := intOk_all i3 (i5 18 (by simpa using hn) (by decide)) i4 i2
  exact ⟨hok, by rw [intV_yes hok]; exact i1⟩
end Go.Proofs.YtbbjkdnebgeioaaDoor
