/-
  awake.
-/
import Derived.Test.YtpophalhmjchkaaLeast
namespace Go.Proofs.Ytpophalhmjchkaa
open Go.RowKit

theorem put1 : putL ⟨#[98]⟩ ⟨#[49]⟩ [] = [(⟨#[98]⟩, ⟨#[49]⟩)] := rfl
theorem put2 : putL ⟨#[97]⟩ ⟨#[50]⟩ [(⟨#[98]⟩, ⟨#[49]⟩)] = [(⟨#[97]⟩, ⟨#[50]⟩), (⟨#[98]⟩, ⟨#[49]⟩)] := by decide +kernel
theorem get2 : getL ⟨#[97]⟩ [(⟨#[97]⟩, ⟨#[50]⟩), (⟨#[98]⟩, ⟨#[49]⟩)] = some ⟨#[50]⟩ := by decide +kernel

theorem own_succ {w : World} {B e s : Nat} {v : Value} {k : Nat} {xs : List Value} (h : w.ownsRow B e s v (k + 1) xs) : ∃ g c, v = .slice (some ⟨g, 0, none⟩) (k + 1) c := by
  obtain ⟨_, ⟨_, h0⟩ | ⟨g1, c1, u1, rfl, _⟩⟩ := h
  · omega
  · exact ⟨_, _, rfl⟩
set_option maxHeartbeats 4000000 in
set_option maxRecDepth 20000 in
theorem awake_any (w : World) : Calls Try.prog 9 #[] w fun e w' => e = .returned (.bool true) ∧ Below w.heap.size w w' := by
  have HC : Calls Try.prog 8 #[] w (fun e w1 => ∃ b1, e = .returned (.pointer (some ⟨b1, 0, none⟩)) ∧
      Calls Try.prog 13 #[.pointer (some ⟨b1, 0, none⟩), .string ⟨#[98]⟩, .string ⟨#[49]⟩] w1 (fun e w2 => ∃ b2, e = .returned (.pointer (some ⟨b2, 0, none⟩)) ∧
      Calls Try.prog 13 #[.pointer (some ⟨b2, 0, none⟩), .string ⟨#[97]⟩, .string ⟨#[50]⟩] w2 (fun e w3 => ∃ b3, e = .returned (.pointer (some ⟨b3, 0, none⟩)) ∧
      Calls Try.prog 10 #[.pointer (some ⟨b3, 0, none⟩), .string ⟨#[97]⟩] w3 (fun e w4 => e = .returned (.tuple #[.string ⟨#[50]⟩, .bool true]) ∧
      Calls Try.prog 20 #[.pointer (some ⟨b3, 0, none⟩)] w4 (fun e w5 => ∃ lb lc mb mc ka kc, e = .returned (.slice (some ⟨lb, 0, none⟩) 1 lc) ∧ w5.cell? ⟨lb, 0, none⟩ = some (.slice (some ⟨mb, 0, none⟩) 1 mc) ∧ w5.cell? ⟨mb, 0, none⟩ = some (.slice ka 2 kc) ∧
        Calls Try.prog 19 #[.pointer (some ⟨b3, 0, none⟩)] w5 (fun e w6 => e = .returned (.int .i64 2) ∧ w5 = w6) ∧ Calls Try.prog 19 #[.pointer (some ⟨b1, 0, none⟩)] w5 (fun e w6 => e = .returned (.int .i64 0) ∧ w5 = w6) ∧ Hid (Below w.heap.size w w5)))))) := by
    refine Calls.mono (new_any w) ?_
    rintro e w1 ⟨b1, rfl, t1, hb1⟩
    refine ⟨b1, rfl, Calls.mono (put_any b1 0 (.leaf []) _ _ w1 t1 (by simp [toL])) ?_⟩
    rintro e w2 ⟨b2, rfl, h2, n2, t2, l2, hb2⟩
    have l2 : toL h2 n2 = [(⟨#[98]⟩, ⟨#[49]⟩)] := l2.trans put1
    have hb2 : Below w.heap.size w w2 ∧ Below w1.heap.size w1 w2 := ⟨hb1.trans (hb2.mono hb1.size), hb2⟩
    refine ⟨b2, rfl, Calls.mono (put_any b2 h2 n2 _ _ w2 t2 (by rw [l2]; simp)) ?_⟩
    rintro e w3 ⟨b3, rfl, h3, n3, t3, l3, hb3⟩
    rw [l2, put2] at l3
    have hb13 : Below w1.heap.size w1 w3 := hb2.2.trans (hb3.mono hb2.2.size)
    have hw3 : Below w.heap.size w w3 := hb2.1.trans (hb3.mono hb2.1.size)
    have hg := get_any b3 h3 n3 ⟨#[97]⟩ w3 t3
    rw [l3, get2] at hg
    refine ⟨b3, rfl, Calls.mono hg ?_⟩
    rintro e w4 ⟨rfl, hb4⟩
    have t4 := t3.below hb4
    obtain ⟨e0, e1⟩ := whole_leaf t3.choose_spec.2.2 (by rw [l3]; simp)
    subst e0
    rw [l3] at e1
    subst e1
    refine ⟨rfl, Calls.mono (levels_any b3 0 _ w4 t4 ⟨by simp, by simp, by intro t ht; simp at ht; subst ht; show (keysP _).length ≤ 100; simp [keysP]⟩ (by simp [levelsL])) ?_⟩
    rintro e w5 ⟨u, rfl, hlv, hb5⟩
    have hw4 : Below w.heap.size w w4 := hw3.trans (hb4.mono hw3.size)
    have hb15 : Below w1.heap.size w1 w5 := (hb13.trans (hb4.mono hb13.size)).trans (hb5.mono (hb13.trans (hb4.mono hb13.size)).size)
    obtain ⟨us, o1, o2⟩ := hlv
    match us, o1, o2 with
    | [lv], o1, o2 =>
      obtain ⟨⟨vs, p1, p2⟩, _⟩ := o2
      match vs, p1, p2 with
      | [kv], p1, p2 =>
        obtain ⟨lb, lc, rfl⟩ := own_succ o1
        obtain ⟨mb, mc, rfl⟩ := own_succ p1
        obtain ⟨ka, kc, rfl⟩ := own_slice p2.1
        exact ⟨lb, lc, mb, mc, ka, kc, rfl, World.ownsRow.cellAt o1 0 (by decide), World.ownsRow.cellAt p1 0 (by decide), len_any b3 0 _ w5 (t4.below hb5), len_any b1 0 _ w5 (t1.below hb15), hw4.trans (hb5.mono hw4.size)⟩
      | [], _, p2 => exact p2.elim
      | _ :: _ :: _, _, p2 => exact p2.2.elim
    | [], _, o2 => exact o2.elim
    | _ :: _ :: _, _, o2 => exact o2.2.elim
  go_enter Try.func9, Try.ntmps9
  go_wp2_with fail
  refine Calls.mono HC ?_
  rintro e w1 ⟨b1, rfl, HC⟩
  go_wp2_with fail
  refine Calls.mono HC ?_
  rintro e w2 ⟨b2, rfl, HC⟩
  go_wp2_with fail
  refine Calls.mono HC ?_
  rintro e w3 ⟨b3, rfl, HC⟩
  go_wp2_with fail
  refine Calls.mono HC ?_
  rintro e w4 ⟨rfl, HC⟩
  go_wp2_with fail
  refine Calls.mono HC ?_
  rintro e w5 ⟨lb, lc, mb, mc, ka, kc, rfl, c1, c2, L3, L1, HB⟩
  go_wp2_with fail
  refine Calls.mono L3 ?_
  rintro e w6 ⟨rfl, rfl⟩
  go_wp2_with fail
  refine Calls.mono L1 ?_
  rintro e w6 ⟨rfl, rfl⟩
  go_wp2
  go_ret
  exact ⟨rfl, HB.out⟩
end Go.Proofs.Ytpophalhmjchkaa
