/-
  The document's Unbase64 by its contract.
-/
import Derived.Test.YtbbjkdnebgeioaaUnb64b
import Derived.Test.YtbbjkdnebgeioaaRefB64
namespace Go.Proofs.Ytbbjkdnebgeioaa
open Go.RowKit

theorem fl_table : ∀ c : Nat, c < 256 → fnd letText.data.toList (c : Int) 0 = if svOk (c : Int) then svN (c : Int) else -1 := by decide +kernel
theorem findLet_any (c : Int) (w : World) (h0 : 0 ≤ c) (h1 : c ≤ 255) :
    Calls Try.prog 27 #[.string letText, .int .u8 c] w fun e w' => e = .returned (.int .i64 (if svOk c then svN c else -1)) ∧ w = w' := by
  obtain ⟨a, rfl⟩ := Int.eq_ofNat_of_zero_le h0
  rw [← fl_table a (by omega)]
  exact find_any letText a w (by decide)
theorem findLet_yes (c : Int) (w : World) (h0 : 0 ≤ c) (h1 : c ≤ 255) (h : svOk c = true) :
    Calls Try.prog 27 #[.string letText, .int .u8 c] w fun e w' => e = .returned (.int .i64 (svN c)) ∧ w = w' := by
  have := findLet_any c w h0 h1
  rw [if_pos h] at this
  exact this
theorem findLet_no (c : Int) (w : World) (h0 : 0 ≤ c) (h1 : c ≤ 255) (h : svOk c = false) :
    Calls Try.prog 27 #[.string letText, .int .u8 c] w fun e w' => e = .returned (.int .i64 (-1)) ∧ w = w' := by
  have := findLet_any c w h0 h1
  rw [if_neg (by simp [h])] at this
  exact this

/-- A group of characters c 0 .. c 3: the number, how many bytes, whether it may be. -/
def cvv (c : UInt8) : Int := if okB c then svN (N c) else 0
def nv (c : Nat → UInt8) : Nat → Int
  | 0 => 0
  | k + 1 => 64 * nv c k + cvv (c k)
def szv (c : Nat → UInt8) : Nat → Int
  | 0 => 3
  | k + 1 => if okB (c k) then szv c k else min (szv c k) ((k : Int) - 1)
def fine (c : UInt8) (k : Nat) : Bool := okB c || (decide (c = 61) && decide (2 ≤ k))
theorem cvv_bd (c : UInt8) : 0 ≤ cvv c ∧ cvv c ≤ 63 := by
  unfold cvv
  split
  · exact svN_bd c
  · omega
theorem nv_bd (c : Nat → UInt8) : 0 ≤ nv c 0 ∧ nv c 0 ≤ 0 ∧ 0 ≤ nv c 1 ∧ nv c 1 ≤ 63 ∧ 0 ≤ nv c 2 ∧ nv c 2 ≤ 4095 ∧ 0 ≤ nv c 3 ∧ nv c 3 ≤ 262143 ∧ 0 ≤ nv c 4 ∧ nv c 4 ≤ 16777215 := by
  have h0 := cvv_bd (c 0)
  have h1 := cvv_bd (c 1)
  have h2 := cvv_bd (c 2)
  have h3 := cvv_bd (c 3)
  simp only [nv]
  omega
theorem nv_small (c : Nat → UInt8) {k : Nat} (h : k < 4) : 0 ≤ nv c k ∧ nv c k ≤ 262143 := by
  have := nv_bd c
  have h4 : k = 0 ∨ k = 1 ∨ k = 2 ∨ k = 3 := by omega
  rcases h4 with rfl | rfl | rfl | rfl <;> omega
theorem szv_bd (c : Nat → UInt8) : ∀ k, k ≤ 4 → (∀ j, j < k → fine (c j) j = true) → 1 ≤ szv c k ∧ szv c k ≤ 3
  | 0, _, _ => by simp [szv]
  | k + 1, hk, h => by
    have ih := szv_bd c k (by omega) fun j hj => h j (by omega)
    have hf := h k (by omega)
    rw [szv]
    by_cases ho : okB (c k) = true
    · rw [if_pos ho]; exact ih
    · rw [if_neg ho]
      have hk2 : 2 ≤ k := by
        simp only [fine, Bool.or_eq_true, Bool.and_eq_true, decide_eq_true_eq] at hf
        rcases hf with hf | hf
        · exact absurd hf ho
        · exact hf.2
      omega
def rb (c : Nat → UInt8) : List UInt8 := [byte (nv c 4 / 65536 % 256).toNat, byte (nv c 4 / 256 % 256).toNat, byte (nv c 4 % 256).toNat].take (szv c 4).toNat
def fineG (c : Nat → UInt8) : Bool := fine (c 0) 0 && fine (c 1) 1 && fine (c 2) 2 && fine (c 3) 3
def cat (l : List UInt8) (p k : Nat) : UInt8 := l.getD (p + k) 0
def rdec (l : List UInt8) (j : Nat) : List UInt8 := (List.range j).flatMap fun i => rb (cat l (4 * i))
theorem rdec_succ (l : List UInt8) (j : Nat) : rdec l (j + 1) = rdec l j ++ rb (cat l (4 * j)) := by simp [rdec, List.range_succ]
theorem rb_length (c : Nat → UInt8) : (rb c).length ≤ 3 := by simp [rb]; omega
theorem rdec_length (l : List UInt8) : ∀ j, (rdec l j).length ≤ 3 * j
  | 0 => by simp [rdec]
  | j + 1 => by
    have := rdec_length l j
    have := rb_length (cat l (4 * j))
    rw [rdec_succ, List.length_append]
    omega

theorem byte_eq {n : Nat} {a : UInt8} (h : (n : Int) = N a) : byte n = a := by
  have := N_bd a
  apply UInt8.toNat_inj.1
  unfold N at h this
  rw [byte, UInt8.toNat_ofNat']
  omega
theorem cvv_of {d : Int} (h0 : 0 ≤ d) (h1 : d < 64) : cvv (sdB d) = d ∧ okB (sdB d) = true := by
  have h := sv_of h0 h1
  have ho : okB (sdB d) = true := h.1
  refine ⟨?_, ho⟩
  rw [cvv, if_pos ho, sv_eq]
  exact h.2
theorem cvv_61 : cvv 61 = 0 ∧ okB 61 = false := by decide
theorem rb_g3 {c : Nat → UInt8} {a b d : UInt8} (h0 : c 0 = sdB (N a / 4)) (h1 : c 1 = sdB (N a % 4 * 16 + N b / 16)) (h2 : c 2 = sdB (N b % 16 * 4 + N d / 64)) (h3 : c 3 = sdB (N d % 64)) : rb c = [a, b, d] ∧ fineG c = true := by
  have x1 := N_bd a
  have x2 := N_bd b
  have x3 := N_bd d
  have y0 := cvv_of (d := N a / 4) (by omega) (by omega)
  have y1 := cvv_of (d := N a % 4 * 16 + N b / 16) (by omega) (by omega)
  have y2 := cvv_of (d := N b % 16 * 4 + N d / 64) (by omega) (by omega)
  have y3 := cvv_of (d := N d % 64) (by omega) (by omega)
  rw [← h0] at y0
  rw [← h1] at y1
  rw [← h2] at y2
  rw [← h3] at y3
  have en : nv c 4 = N a * 65536 + N b * 256 + N d := by simp only [nv, y0.1, y1.1, y2.1, y3.1]; omega
  have es : szv c 4 = 3 := by simp [szv, y0.2, y1.2, y2.2, y3.2]
  refine ⟨?_, by simp [fineG, fine, y0.2, y1.2, y2.2, y3.2]⟩
  rw [rb, es, en]
  rw [byte_eq (a := a) (by omega), byte_eq (a := b) (by omega), byte_eq (a := d) (by omega)]
  rfl
theorem rb_g2 {c : Nat → UInt8} {a b : UInt8} (h0 : c 0 = sdB (N a / 4)) (h1 : c 1 = sdB (N a % 4 * 16 + N b / 16)) (h2 : c 2 = sdB (N b % 16 * 4)) (h3 : c 3 = 61) : rb c = [a, b] ∧ fineG c = true := by
  have x1 := N_bd a
  have x2 := N_bd b
  have y0 := cvv_of (d := N a / 4) (by omega) (by omega)
  have y1 := cvv_of (d := N a % 4 * 16 + N b / 16) (by omega) (by omega)
  have y2 := cvv_of (d := N b % 16 * 4) (by omega) (by omega)
  have y3 := cvv_61
  rw [← h0] at y0
  rw [← h1] at y1
  rw [← h2] at y2
  rw [← h3] at y3
  have en : nv c 4 = N a * 65536 + N b * 256 := by simp only [nv, y0.1, y1.1, y2.1, y3.1]; omega
  have es : szv c 4 = 2 := by simp [szv, y0.2, y1.2, y2.2, y3.2]; omega
  refine ⟨?_, by simp [fineG, fine, y0.2, y1.2, y2.2, h3]⟩
  rw [rb, es, en]
  rw [byte_eq (a := a) (by omega), byte_eq (a := b) (by omega)]
  rfl
theorem rb_g1 {c : Nat → UInt8} {a : UInt8} (h0 : c 0 = sdB (N a / 4)) (h1 : c 1 = sdB (N a % 4 * 16)) (h2 : c 2 = 61) (h3 : c 3 = 61) : rb c = [a] ∧ fineG c = true := by
  have x1 := N_bd a
  have y0 := cvv_of (d := N a / 4) (by omega) (by omega)
  have y1 := cvv_of (d := N a % 4 * 16) (by omega) (by omega)
  have y2 := cvv_61
  have y3 := cvv_61
  rw [← h0] at y0
  rw [← h1] at y1
  rw [← h2] at y2
  rw [← h3] at y3
  have en : nv c 4 = N a * 65536 := by simp only [nv, y0.1, y1.1, y2.1, y3.1]; omega
  have es : szv c 4 = 1 := by simp [szv, y0.2, y1.2, y2.2, y3.2]; omega
  refine ⟨?_, by simp [fineG, fine, y0.2, y1.2, h2, h3]⟩
  rw [rb, es, en]
  rw [byte_eq (a := a) (by omega)]
  rfl

theorem cat_shift (x l : List UInt8) (hx : x.length = 4) (i : Nat) : cat (x ++ l) (4 * (i + 1)) = cat l (4 * i) := by
  funext k
  rw [cat, cat, List.getD, List.getElem?_append_right (by omega), List.getD]
  congr 2
  omega
/-- Whatever Base64 wrote, the groups are read back, and each may be. -/
theorem rdec_b64 : ∀ (m : Nat) (y : List UInt8), y.length = m → rdec (b64 y) ((b64 y).length / 4) = y ∧ ∀ j, j < (b64 y).length / 4 → fineG (cat (b64 y) (4 * j)) = true := by
  intro m
  induction m using Nat.strongRecOn with
  | _ m ih =>
    intro y hm
    match y, hm with
    | [], _ => exact ⟨rfl, fun j hj => by simp [b64] at hj⟩
    | [a], _ =>
      have h := rb_g1 (c := cat (b64 [a]) (4 * 0)) (a := a) rfl rfl rfl rfl
      refine ⟨?_, fun j hj => ?_⟩
      · have e : (b64 [a]).length / 4 = 0 + 1 := by simp [b64, g1]
        rw [e, rdec_succ, h.1]
        rfl
      · obtain rfl : j = 0 := by simp [b64, g1] at hj; omega
        exact h.2
    | [a, b], _ =>
      have h := rb_g2 (c := cat (b64 [a, b]) (4 * 0)) (a := a) (b := b) rfl rfl rfl rfl
      refine ⟨?_, fun j hj => ?_⟩
      · have e : (b64 [a, b]).length / 4 = 0 + 1 := by simp [b64, g2]
        rw [e, rdec_succ, h.1]
        rfl
      · obtain rfl : j = 0 := by simp [b64, g2] at hj; omega
        exact h.2
    | a :: b :: d :: r, hm =>
      obtain ⟨i1, i2⟩ := ih r.length (by simp at hm; omega) r rfl
      have h := rb_g3 (c := cat (b64 (a :: b :: d :: r)) (4 * 0)) (a := a) (b := b) (d := d) rfl rfl rfl rfl
      have hl : (b64 (a :: b :: d :: r)).length / 4 = (b64 r).length / 4 + 1 := by
        simp only [b64, g3, List.length_append, List.length_cons, List.length_nil]
        omega
      rw [hl]
      refine ⟨?_, fun j hj => ?_⟩
      · rw [rdec, List.range_succ_eq_map, List.flatMap_cons, h.1, List.flatMap_map]
        have e : ∀ i, rb (cat (b64 (a :: b :: d :: r)) (4 * (i + 1))) = rb (cat (b64 r) (4 * i)) := fun i => by
          rw [b64, cat_shift (g3 a b d) (b64 r) rfl i]
        have e2 : (List.range ((b64 r).length / 4)).flatMap (fun i => rb (cat (b64 (a :: b :: d :: r)) (4 * (i + 1)))) = rdec (b64 r) ((b64 r).length / 4) := by
          rw [rdec]
          exact congrArg (fun f => (List.range ((b64 r).length / 4)).flatMap f) (funext e)
        show [a, b, d] ++ (List.range ((b64 r).length / 4)).flatMap (fun i => rb (cat (b64 (a :: b :: d :: r)) (4 * (i + 1)))) = _
        rw [e2, i1]
        rfl
      · match j, hj with
        | 0, _ => exact h.2
        | j + 1, hj =>
          rw [b64, cat_shift (g3 a b d) (b64 r) rfl j]
          exact i2 j (by omega)
end Go.Proofs.Ytbbjkdnebgeioaa
