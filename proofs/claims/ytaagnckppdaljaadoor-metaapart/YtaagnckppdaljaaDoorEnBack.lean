/-
  There and back, as lists: hexadecimal digits, numbers in eight bytes.
-/
import Derived.Test.YtaagnckppdaljaaDoorEnHex
import Derived.Test.YtaagnckppdaljaaDoorEnUnhex
import Derived.Test.YtaagnckppdaljaaDoorEnVal
import Derived.Test.YtaagnckppdaljaaDoorEnNum
namespace Go.Proofs.YtaagnckppdaljaaDoor.En

theorem hex_at : ∀ (l : List UInt8) (i : Nat) (h : i < l.length), (hexL l).getD (2 * i) 0 = UInt8.ofNat (hd ((l[i].toNat : Int) / 16)).toNat ∧ (hexL l).getD (2 * i + 1) 0 = UInt8.ofNat (hd ((l[i].toNat : Int) % 16)).toNat
  | [], i, h => by simp at h
  | a :: r, 0, _ => ⟨rfl, rfl⟩
  | a :: r, i + 1, h => by
    have ih := hex_at r i (by simpa using h)
    have e : hexL (a :: r) = UInt8.ofNat (hd ((a.toNat : Int) / 16)).toNat :: UInt8.ofNat (hd ((a.toNat : Int) % 16)).toNat :: hexL r := rfl
    rw [e, show 2 * (i + 1) = 2 * i + 2 by omega, show 2 * i + 2 + 1 = (2 * i + 1) + 2 by omega]
    exact ih
theorem hv_hd : ∀ v : Nat, v < 16 → hvOk (hd (v : Int)) = true ∧ hvN (hd (v : Int)) = (v : Int) := by decide +kernel
theorem hex_back (l : List UInt8) : uhOk (hexL l) = true ∧ uhL (hexL l) = l := by
  have hl := hexL_length l
  have key : ∀ i (h : i < l.length), pOk (hexL l) i = true ∧ pv (hexL l) i = l[i] := by
    intro i h
    obtain ⟨e1, e2⟩ := hex_at l i h
    have hc := l[i].toNat_lt
    have x1 := hv_hd (l[i].toNat / 16) (by omega)
    have x2 := hv_hd (l[i].toNat % 16) (by omega)
    have n1 : nth (hexL l) (2 * i) = hd ((l[i].toNat / 16 : Nat) : Int) := by rw [nth, e1, hd_cell (by omega) (by omega)]; rfl
    have n2 : nth (hexL l) (2 * i + 1) = hd ((l[i].toNat % 16 : Nat) : Int) := by rw [nth, e2, hd_cell (by omega) (by omega)]; rfl
    refine ⟨by rw [pOk, n1, n2, x1.1, x2.1]; rfl, ?_⟩
    rw [pv, n1, n2, x1.2, x2.2]
    apply UInt8.toNat_inj.1
    rw [UInt8.toNat_ofNat']
    omega
  have hok : uhOk (hexL l) = true := uhOk_all (by omega) (fun i hi => (key i (by omega)).1)
  refine ⟨hok, ?_⟩
  rw [uhL_yes hok, hl, show 2 * l.length / 2 = l.length by omega]
  apply List.ext_getElem
  · rw [prs_length]
  · intro i h1 h2
    have := (key i h2).2
    simpa [prs] using this

theorem put_get (n : Nat) (hn : n < 18446744073709551616) : g64 (be n 8) = n ∧ g64Ok (be n 8) = true := by
  have h := g64_yes (be_length n 8)
  refine ⟨?_, h.2⟩
  rw [h.1]
  simp [vl, be]
  omega

theorem less_step {B q q' r r' : Nat} (hr : r < B) (hr' : r' < B) : decide (B * q + r < B * q' + r') = (decide (q < q') || (decide (q = q') && decide (r < r'))) := by
  rcases Nat.lt_trichotomy q q' with h | h | h
  · have h1 : B * (q + 1) ≤ B * q' := Nat.mul_le_mul_left B h
    rw [Nat.mul_add] at h1
    have : B * q + r < B * q' + r' := by omega
    simp [this, h]
  · subst h
    simp
  · have h1 : B * (q' + 1) ≤ B * q := Nat.mul_le_mul_left B h
    rw [Nat.mul_add] at h1
    have h2 : ¬ B * q + r < B * q' + r' := by omega
    have h3 : ¬ q < q' := by omega
    have h4 : ¬ q = q' := by omega
    rw [decide_eq_false h2, decide_eq_false h3, decide_eq_false h4]
    rfl
theorem byte_lt (a b : Nat) : (UInt8.ofNat a < UInt8.ofNat b) ↔ a % 256 < b % 256 := by
  rw [UInt8.lt_iff_toNat_lt, UInt8.toNat_ofNat', UInt8.toNat_ofNat']
theorem byte_beq (a b : Nat) : (UInt8.ofNat a == UInt8.ofNat b) = decide (a % 256 = b % 256) := by
  rw [Bool.eq_iff_iff, beq_iff_eq, decide_eq_true_eq, ← UInt8.toNat_inj, UInt8.toNat_ofNat', UInt8.toNat_ofNat']
theorem less_be : ∀ (j n k : Nat), Op.bytesLess (be n j) (be k j) = decide (n % 2 ^ (8 * j) < k % 2 ^ (8 * j))
  | 0, n, k => by simp [be, Op.bytesLess, Nat.mod_one]
  | j + 1, n, k => by
    have ih := less_be j n k
    have hB : 0 < 2 ^ (8 * j) := Nat.two_pow_pos _
    have e : 2 ^ (8 * (j + 1)) = 2 ^ (8 * j) * 256 := by rw [show 8 * (j + 1) = 8 * j + 8 by omega, Nat.pow_add]
    rw [be, be, Op.bytesLess, ih, e, Nat.mod_mul, Nat.mod_mul, Nat.add_comm (n % _), Nat.add_comm (k % _), less_step (Nat.mod_lt _ hB) (Nat.mod_lt _ hB), byte_beq]
    congr 1
theorem put_less (n k : Nat) (hn : n < 18446744073709551616) (hk : k < 18446744073709551616) : Op.bytesLess (be n 8) (be k 8) = decide (n < k) := by
  rw [less_be 8 n k, Nat.mod_eq_of_lt (show n < 2 ^ (8 * 8) from hn), Nat.mod_eq_of_lt (show k < 2 ^ (8 * 8) from hk)]

end Go.Proofs.YtaagnckppdaljaaDoor.En
