/-
  A chunk's length, read out of its digits.
-/
import Derived.Test.YtgpjjlkkfddjnaaDoorPu
import Derived.Test.YtgpjjlkkfddjnaaDoorRdrD
namespace Go.Proofs.YtgpjjlkkfddjnaaDoor
open Go.RowKit

theorem dg_dv {c : UInt8} (h : isDg c = true) : dv c = dvN c ∧ dvN c < 16 := by
  simp only [isDg, Bool.or_eq_true, decide_eq_true_eq] at h
  unfold dv dvN
  rcases h with h | h
  · rw [if_pos h, if_pos h]
    omega
  · rw [if_neg (by omega), if_neg (by omega), if_pos h, if_neg (by omega)]
    omega
theorem digs_num : ∀ (d : List UInt8) (n : Nat), (∀ c ∈ d, isDg c = true) → digs 16 n d = some (d.foldl (fun n c => n * 16 + dvN c) n)
  | [], n, _ => rfl
  | c :: d, n, h => by
    obtain ⟨h1, h2⟩ := dg_dv (h c (by simp))
    rw [digs, if_pos (by omega), h1, digs_num d _ (fun x hx => h x (by simp [hx])), List.foldl_cons, Nat.mul_comm 16 n]
theorem num_lt : ∀ (d : List UInt8) (n : Nat), (∀ c ∈ d, isDg c = true) → d.foldl (fun n c => n * 16 + dvN c) n < (n + 1) * 16 ^ d.length
  | [], n, _ => by simp
  | c :: d, n, h => by
    obtain ⟨_, h2⟩ := dg_dv (h c (by simp))
    have := num_lt d (n * 16 + dvN c) (fun x hx => h x (by simp [hx]))
    rw [List.foldl_cons, List.length_cons, Nat.pow_succ, Nat.mul_comm (16 ^ d.length) 16, ← Nat.mul_assoc]
    exact Nat.lt_of_lt_of_le this (Nat.mul_le_mul_right _ (by omega))
theorem num_small {d : List UInt8} (h : ∀ c ∈ d, isDg c = true) (hl : d.length ≤ 8) : numL d < 4294967296 := by
  have h1 := num_lt d 0 h
  have h2 : 16 ^ d.length ≤ 16 ^ 8 := Nat.pow_le_pow_right (by omega) hl
  unfold numL
  simp only [Nat.zero_add, Nat.one_mul] at h1
  have : (16 : Nat) ^ 8 = 4294967296 := by decide
  omega
set_option maxRecDepth 20000 in
set_option maxHeartbeats 1600000 in
theorem parse_nil (w : World) (he : Er w) : Calls Tryd.prog 58 #[.string ⟨#[]⟩, .int .i64 16, .int .i64 64] w fun e w' => (∃ ev, e = .returned (.tuple #[.int .u64 0, ev])) ∧ Below w.heap.size w w' := by
  have HI : Hid (Calls Tryd.prog 74 #[.string ⟨#[]⟩, .int .i64 16, .int .i64 64] w fun e w' => e = .returned (.tuple #[.int .u64 0, .iface 131 (.int .i64 2)]) ∧ w' = w) := by
    clear he
    show Calls _ _ _ _ _
    go_enter Tryd.func74, Tryd.ntmps74
    go_wp2
    go_ret2
    exact ⟨rfl, rfl⟩
  have HT : Hid (Calls Tryd.prog 75 #[.string ⟨#[80, 97, 114, 115, 101, 85, 105, 110, 116]⟩, .string ⟨#[]⟩, .int .i64 16, .int .i64 64, .iface 131 (.int .i64 2)] w fun e w' => ∃ N, e = .returned (.iface 133 (.pointer (some ⟨N, 0, none⟩))) ∧ Below w.heap.size w w') := by
    obtain ⟨⟨ev, h1, h2⟩, -⟩ := he
    refine (strconv_toError_syntax _ ⟨#[]⟩ 16 64 ev w (by decide) h1 h2).mono ?_
    rintro e w' ⟨M, h5, -, -, h6⟩
    exact ⟨M, h5, h6⟩
  clear he
  go_enter Tryd.func58, Tryd.ntmps58
  go_wp2_with fail
  refine Calls.mono HI.out ?_
  rintro e w1 ⟨rfl, rfl⟩
  have K := HT.out
  go_wp2_with fail
  refine Calls.mono K ?_
  rintro e w2 ⟨M, rfl, hb2⟩
  have HB2 : Hid (Below w1.heap.size w1 w2) := hb2
  clear hb2 K
  go_wp2
  go_ret2
  exact ⟨⟨_, rfl⟩, HB2.out⟩
set_option maxRecDepth 20000 in
set_option maxHeartbeats 1600000 in
theorem number_any (d : List UInt8) (w : World) (hd : ∀ c ∈ d, isDg c = true) (hl : d.length ≤ 8) (he : Er w) :
    Calls Tryd.prog 37 #[.string ⟨d.toArray⟩] w fun e w' => e = .returned (.int .i64 (numL d : Int)) ∧ Below w.heap.size w w' := by
  have K : Hid (Calls Tryd.prog 58 #[.string ⟨d.toArray⟩, .int .i64 16, .int .i64 64] w fun e w' => (∃ ev, e = .returned (.tuple #[.int .u64 (numL d : Int), ev])) ∧ Below w.heap.size w w') := by
    show Calls _ _ _ _ _
    by_cases h0 : d = []
    · subst h0
      exact parse_nil w he
    · have hs : (⟨d.toArray⟩ : ByteArray).size = d.length := by simp [ByteArray.size]
      refine (parsePub_any ⟨d.toArray⟩ w (by rw [hs]; omega) he).mono ?_
      rintro e w' ⟨⟨x, ev, h1, -, -, -, h2⟩, h3⟩
      refine ⟨?_, h3⟩
      have hp : puN d = some (numL d) := by rw [puN, if_neg h0, digs_num d 0 hd]; rfl
      rcases h2 (by simpa using hl) with ⟨n, h4, h5, h6⟩ | ⟨h4, _⟩
      · simp only at h4
        rw [hp] at h4
        simp only [Option.some.injEq] at h4
        exact ⟨ev, by rw [h1, h5, h4]⟩
      · simp only at h4
        rw [hp] at h4
        cases h4
  have hn := num_small hd hl
  obtain ⟨n, hN⟩ : ∃ n, n = numL d := ⟨_, rfl⟩
  rw [← hN] at K hn ⊢
  have hn0 : (n : Int) < 4294967296 := by omega
  clear he hN
  go_enter Tryd.func37, Tryd.ntmps37
  go_wp2_with fail
  refine Calls.mono K.out ?_
  rintro e w1 ⟨⟨ev, rfl⟩, hb⟩
  have HB : Hid (Below w.heap.size w w1) := hb
  clear K hb
  go_wp2
  go_ret
  exact ⟨rfl, HB.out⟩
end Go.Proofs.YtgpjjlkkfddjnaaDoor
