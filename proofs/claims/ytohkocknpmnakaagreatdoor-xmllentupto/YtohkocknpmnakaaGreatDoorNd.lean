/-
  reference.
-/
import Derived.Test.YtohkocknpmnakaaGreatDoorNc
namespace Go.Proofs.YtohkocknpmnakaaGreatDoor
open Go.RowKit

/-- What a reference tells: the character and how many bytes it took; 0: none. -/
def RfR (o : Option (Nat × Nat)) (e : Ending) : Prop :=
  (∃ n k, o = some (n, k) ∧ e = .returned (.tuple #[.int .i32 (n : Int), .int .i64 (k : Int)])) ∨ (o = none ∧ e = .returned (.tuple #[.int .i32 0, .int .i64 0]))
/-- Behind an ampersand. -/
def refN (r : List UInt8) : Option (Nat × Nat) :=
  if (upto 59 r).length = r.length then none else (entN (upto 59 r)).map fun n => (n, (upto 59 r).length + 2)
theorem entN_len {a : List UInt8} {n : Nat} (h : entN a = some n) : a.length ≤ 9 := by
  have : entL a = some (Lib.encodeRune (n : Int)) := by rw [entL_N, h]; rfl
  exact (ent_ok this).1
theorem upto_take (c : UInt8) (k : Nat) : ∀ (r : List UInt8), upto c (r.take k) = (upto c r).take k := by
  induction k with
  | zero => intro r; simp [upto]
  | succ k ih =>
    intro r
    cases r with
    | nil => simp [upto]
    | cons a r =>
      by_cases h : a = c
      · subst h; simp [upto]
      · have h1 : ∀ q, upto c (a :: q) = a :: upto c q := fun q => by simp [upto, h]
        rw [List.take_succ_cons, h1, h1, List.take_succ_cons, ih]
/-- Only the first bytes count. -/
theorem ref_short (r : List UInt8) : refN r = if (upto 59 (r.take 10)).length = (r.take 10).length then none else (entN (upto 59 (r.take 10))).map fun n => (n, (upto 59 (r.take 10)).length + 2) := by
  unfold refN
  have hle := upto_le 59 r
  rw [upto_take]
  by_cases h10 : (upto 59 r).length ≤ 9
  · have e : (upto 59 r).take 10 = upto 59 r := List.take_of_length_le (by omega)
    rw [e]
    by_cases h : (upto 59 r).length = r.length
    · rw [if_pos h, if_pos (by rw [List.length_take]; omega)]
    · rw [if_neg h, if_neg (by rw [List.length_take]; omega)]
  · have h2 : (if (upto 59 r).length = r.length then none else (entN (upto 59 r)).map fun n => (n, (upto 59 r).length + 2)) = none := by
      split
      · rfl
      · cases e : entN (upto 59 r) with
        | none => rfl
        | some n => exact absurd (entN_len e) h10
    rw [h2, if_pos (by rw [List.length_take, List.length_take]; omega)]

set_option maxRecDepth 20000 in
set_option maxHeartbeats 1600000 in
theorem reference_any (r : List UInt8) (w : World) (hl : r.length < 4294967280) (hm : Mx w) (he : Er w) :
    Calls Tryz.prog 42 #[.string ⟨(38 :: r).toArray⟩] w fun e w' => RfR (refN r) e ∧ Below w.heap.size w w' := by
  obtain ⟨O, hO⟩ : ∃ O, O = refN r := ⟨_, rfl⟩
  rw [← hO]
  rw [ref_short] at hO
  obtain ⟨s, hs⟩ : ∃ s : ByteArray, s = ⟨(38 :: r).toArray⟩ := ⟨_, rfl⟩
  rw [← hs]
  have hsz : s.size = r.length + 1 := by rw [hs, mk_size]; simp
  have hx : s.extract 0 (min ((r.length : Int) + 1) 11).toNat = ⟨(38 :: r.take 10).toArray⟩ := by
    rw [hs, mk_ext, List.drop_zero]
    congr 2
    by_cases h : r.length ≤ 10
    · rw [show (min ((r.length : Int) + 1) 11).toNat = (38 :: r).length by simp; omega, List.take_length, List.take_of_length_le h]
    · rw [show (min ((r.length : Int) + 1) 11).toNat = 10 + 1 by omega, List.take_succ_cons]
  have hu : upto 59 (38 :: r.take 10) = 38 :: upto 59 (r.take 10) := by simp [upto]
  have HC := (show Hid (Calls Tryz.prog 54 #[.string ⟨(38 :: r.take 10).toArray⟩, .string ⟨#[59]⟩] w fun e w' => e = .returned (.tuple #[.string ⟨(Lib.cut (38 :: r.take 10) [59]).1.toArray⟩, .string ⟨(Lib.cut (38 :: r.take 10) [59]).2.1.toArray⟩, .bool (Lib.cut (38 :: r.take 10) [59]).2.2]) ∧ ∃ n, w' = w.drewN n) from by
    obtain ⟨m, h0⟩ := hm
    exact strings_Cut ⟨(38 :: r.take 10).toArray⟩ ⟨#[59]⟩ m w (by rw [mk_size]; simp; omega) h0)
  rw [cut_one, hu] at HC
  have hle := upto_le 59 (r.take 10)
  have hl10 : (r.take 10).length ≤ 10 := by simp; omega
  have HE : Hid (Er w) := he
  generalize r.take 10 = q at *
  clear hs hu hm he
  by_cases hn : (upto 59 q).length = q.length
  · rw [if_pos hn] at hO
    rw [if_pos (by simp [hn])] at HC
    have HO : Hid (O = none) := hO
    clear hO hn
    go_enter Tryz.func42, Tryz.ntmps42
    go_wp2_with fail
    refine wp_scope_ahead 0 rfl ?_
    go_wp2_with fail
    refine HC.out.mono ?_
    rintro e w1 ⟨rfl, n, rfl⟩
    go_wp2_with fail
    go_step3
    refine ⟨rfl, ?_⟩
    go_wp2
    rw [Exit.noGoto_ret]
    go_wp2
    go_ret2
    exact ⟨.inr ⟨HO.out, rfl⟩, below_drewN (Below.refl _ _) _⟩
  · rw [if_neg hn] at hO
    rw [if_neg (by simp [hn])] at HC
    have K := (show Hid (∀ W, Er W → Calls Tryz.prog 72 #[.string ⟨(38 :: upto 59 q).toArray⟩] W fun e w' => NmR (entN (upto 59 q)) e ∧ Below W.heap.size W w') from fun W h => charOf_any (upto 59 q) W (by omega) h)
    have HO : Hid (O = (entN (upto 59 q)).map fun n => (n, (upto 59 q).length + 2)) := hO
    have hua : (upto 59 q).length ≤ 10 := by omega
    clear hO hn hle
    generalize entN (upto 59 q) = E at *
    generalize upto 59 q = a at *
    obtain ⟨t, ht⟩ : ∃ t : ByteArray, t = ⟨(38 :: a).toArray⟩ := ⟨_, rfl⟩
    have htz : (t.size : Int) = (a.length : Int) + 1 := by rw [ht, mk_size]; simp
    have hadd : IntKind.i64.wrap ((a.length : Int) + 1 + 1) = ((a.length + 2 : Nat) : Int) := by
      rw [show ((a.length : Int) + 1 + 1) = ((a.length + 2 : Nat) : Int) by omega]
      exact wrap_small _ (by omega) (by omega)
    rw [← ht] at HC K
    clear ht
    go_enter Tryz.func42, Tryz.ntmps42
    go_wp2_with fail
    refine wp_scope_ahead 0 rfl ?_
    go_wp2_with fail
    refine HC.out.mono ?_
    rintro e w1 ⟨rfl, n, rfl⟩
    have hb1 : Below w.heap.size w (w.drewN n) := below_drewN (Below.refl _ _) _
    have K1 := K.out _ (HE.out.md (Md.ofBelow (F := fun _ => False) hb1) (fun h => h))
    generalize w.drewN n = w1 at *
    have HB1 : Hid (Below w.heap.size w w1) := hb1
    clear hb1
    go_wp2_with fail
    refine K1.mono ?_
    rintro e w2 ⟨⟨c, h1, rfl⟩ | ⟨h1, rfl⟩, hb⟩
    · have HH := (show Hid (O = some (c, a.length + 2) ∧ Below w.heap.size w w2) from ⟨by rw [HO.out, h1]; rfl, HB1.out.trans (hb.mono HB1.out.size)⟩)
      clear h1 hb K1
      go_wp2_with fail
      rw [Jmp_ret]
      go_wp2
      go_ret2
      exact ⟨.inl ⟨c, a.length + 2, HH.out.1, by simp⟩, HH.out.2⟩
    · have HH := (show Hid (O = none ∧ Below w.heap.size w w2) from ⟨by rw [HO.out, h1]; rfl, HB1.out.trans (hb.mono HB1.out.size)⟩)
      clear h1 hb K1
      go_wp2_with fail
      go_step3
      refine ⟨rfl, ?_⟩
      go_wp2
      rw [Exit.noGoto_ret]
      go_wp2
      go_ret2
      exact ⟨.inr ⟨HH.out.1, rfl⟩, HH.out.2⟩
end Go.Proofs.YtohkocknpmnakaaGreatDoor
