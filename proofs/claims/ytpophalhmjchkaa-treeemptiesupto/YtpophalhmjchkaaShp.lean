/-
  Levels in memory, read: the law's own first and between by their contracts.
-/
import Derived.Test.YtpophalhmjchkaaScr
import Derived.Deep.CutRange
import Derived.Deep.DeepCutAuto
namespace Go.Proofs.Ytpophalhmjchkaa
open Go.RowKit

abbrev Kss := List (List ByteArray)
theorem AllG.get {α : Type} {R : Value → α → Prop} : ∀ {vs : List Value} {xs : List α}, AllG R vs xs → ∀ {j : Nat} (h1 : j < vs.length) (h2 : j < xs.length), R vs[j] xs[j]
  | _ :: _, _ :: _, h, 0, _, _ => h.1
  | _ :: _, _ :: _, h, _ + 1, h1, h2 => AllG.get h.2 (by simpa using h1) (by simpa using h2)
  | [], _, _, _, h1, _ => by simp at h1
  | _ :: _, [], h, _, _, _ => h.elim
theorem own_at {w : World} {B e n : Nat} {v : Value} {xs : List Value} (h : w.ownsRow B e 1 v n xs) {j : Nat} (hj : j < xs.length) : ∃ g c, v = .slice (some ⟨g, 0, none⟩) n c ∧ w.cell? ⟨g, j, none⟩ = some xs[j] := by
  rcases h.2 with ⟨rfl, rfl⟩ | ⟨g, cap, cur, rfl, hb, hg, hr⟩
  · have := h.1; simp at this; rw [this] at hj; simp at hj
  · refine ⟨g, cap, rfl, ?_⟩
    have := h.cells (g := g) rfl j xs[j] (List.getElem?_eq_getElem hj)
    rwa [Addr.add_lit, Nat.zero_add] at this
theorem Lvs.at {w : World} {B : Nat} {u : Value} {ls : List Kss} (h : Lvs w B u ls) {d : Nat} (hd : d < ls.length) : ∃ g c v, u = .slice (some ⟨g, 0, none⟩) ls.length c ∧ w.cell? ⟨g, d, none⟩ = some v ∧ LvRow w B v ls[d] := by
  obtain ⟨us, h1, h2⟩ := h
  have hl := h2.len
  obtain ⟨g, c, rfl, h3⟩ := own_at h1 (j := d) (by omega)
  exact ⟨g, c, us[d], by rw [hl], h3, h2.get (by omega) hd⟩
theorem LvRow.at {w : World} {B : Nat} {v : Value} {kss : Kss} (h : LvRow w B v kss) {d : Nat} (hd : d < kss.length) : ∃ g c x, v = .slice (some ⟨g, 0, none⟩) kss.length c ∧ w.cell? ⟨g, d, none⟩ = some x ∧ KeyRow w B x kss[d] := by
  obtain ⟨us, h1, h2⟩ := h
  have hl := h2.len
  obtain ⟨g, c, rfl, h3⟩ := own_at h1 (j := d) (by omega)
  exact ⟨g, c, us[d], by rw [hl], h3, h2.get (by omega) hd⟩
theorem LvRow.sl {w : World} {B : Nat} {v : Value} {kss : Kss} (h : LvRow w B v kss) : ∃ a c, v = .slice a kss.length c := by
  obtain ⟨us, h1, h2⟩ := h
  obtain ⟨a, c, e⟩ := own_slice h1
  exact ⟨a, c, by rw [e, h2.len]⟩
theorem Lvs.sl {w : World} {B : Nat} {v : Value} {ls : List Kss} (h : Lvs w B v ls) : ∃ a c, v = .slice a ls.length c := by
  obtain ⟨us, h1, h2⟩ := h
  obtain ⟨a, c, e⟩ := own_slice h1
  exact ⟨a, c, by rw [e, h2.len]⟩
theorem KeyRow.at {w : World} {B : Nat} {v : Value} {ks : List ByteArray} (h : KeyRow w B v ks) {i : Nat} (hi : i < ks.length) : ∃ g c, v = .slice (some ⟨g, 0, none⟩) ks.length c ∧ w.cell? ⟨g, i, none⟩ = some (.string ks[i]) := by
  obtain ⟨g, c, e, h3⟩ := own_at (show w.ownsRow B 9 1 v ks.length (scs ks) from h) (j := i) (by simp [scs]; exact hi)
  refine ⟨g, c, e, ?_⟩
  rw [h3]
  simp [scs]
theorem KeyRow.sl {w : World} {B : Nat} {v : Value} {ks : List ByteArray} (h : KeyRow w B v ks) : ∃ a c, v = .slice a ks.length c := own_slice h

/-- How many children the first a nodes have. -/
def firstN (kss : Kss) (a : Nat) : Nat := ((kss.take a).map fun k => k.length + 1).sum
theorem firstN_succ {kss : Kss} {a : Nat} (h : a < kss.length) : firstN kss (a + 1) = firstN kss a + (kss[a].length + 1) := by
  rw [firstN, List.take_succ_eq_append_getElem h, List.map_append, List.sum_append]
  simp [firstN]
theorem firstN_zero (kss : Kss) : firstN kss 0 = 0 := by simp [firstN]
theorem firstN_all {kss : Kss} {a : Nat} (h : kss.length ≤ a) : firstN kss a = firstN kss kss.length := by rw [firstN, firstN, List.take_of_length_le h, List.take_length]
theorem firstN_le {kss : Kss} (hk : ∀ k ∈ kss, k.length ≤ 100) : ∀ a, a ≤ kss.length → firstN kss a ≤ 101 * a
  | 0, _ => by simp [firstN]
  | a + 1, h => by
    rw [firstN_succ (by omega)]
    have h1 := firstN_le hk a (by omega)
    have h2 := hk kss[a] (List.getElem_mem (by omega))
    omega

set_option maxHeartbeats 4000000 in
set_option maxRecDepth 20000 in
theorem first_any (v : Value) (kss : Kss) (at_ B : Nat) (w : World) (h : LvRow w B v kss) (hl : kss.length ≤ 10000) (hk : ∀ k ∈ kss, k.length ≤ 100) (ha : at_ ≤ 1000000) :
    Calls Try.prog 55 #[v, .int .i64 (at_ : Int)] w fun e w' => e = .returned (.int .i64 (firstN kss at_ : Int)) ∧ w = w' := by
  obtain ⟨va, vc, rfl⟩ := h.sl
  obtain ⟨n, hn⟩ : ∃ n, n = kss.length := ⟨_, rfl⟩
  rw [← hn] at h hl ⊢
  have HA : Hid (∀ j, j < n → ∃ g x, va = some ⟨g, 0, none⟩ ∧ w.cell? ⟨g, j, none⟩ = some x ∧ ∃ a c m, x = .slice a m c ∧ firstN kss (j + 1) = firstN kss j + (m + 1) ∧ m ≤ 100) := (by
    intro j hj
    have hj2 : j < kss.length := by omega
    have h' : LvRow w B (.slice va kss.length vc) kss := by rw [← hn]; exact h
    obtain ⟨g, c, x, e, h2, h3⟩ := h'.at hj2
    simp only [Value.slice.injEq] at e
    obtain ⟨a, c2, rfl⟩ := h3.sl
    exact ⟨g, _, e.1, h2, a, c2, _, rfl, firstN_succ hj2, hk _ (List.getElem_mem hj2)⟩)
  have HB : Hid (∀ j, j ≤ n → firstN kss j ≤ 101 * j) := fun j hj => firstN_le hk j (by omega)
  have HE : Hid (∀ j, j ≤ n → ¬ (j < at_ ∧ j < n) → j ≤ at_ → firstN kss j = firstN kss at_) := (by
    intro j h1 h2 h3
    by_cases h4 : j = at_
    · rw [h4]
    · rw [show j = kss.length from by omega, firstN_all (a := at_) (by omega)])
  clear h hn hk
  go_enter Try.func55, Try.ntmps55
  go_wp2
  go_loopw [5, 6] (fun nv iv wr => ∃ j f : Nat, iv = .int .i64 j ∧ nv = .int .i64 f ∧ f = firstN kss j ∧ j ≤ n ∧ j ≤ at_ ∧ wr = w) (fun _ iv _ => n - (intOf iv).toNat)
  case atStart => exact ⟨0, 0, rfl, rfl, (firstN_zero _).symm, Nat.zero_le _, Nat.zero_le _, rfl⟩
  case round =>
    obtain ⟨j, f, rfl, rfl, hf, hj, hja, rfl⟩ := hrel
    by_cases hlt : j < at_ ∧ j < n
    · obtain ⟨g, x, rfl, hc, a, c, m, rfl, hs, hm⟩ := HA.out j hlt.2
      have h1 : (j : Int) < (at_ : Int) := by omega
      have h2 : (j : Int) < (n : Int) := by omega
      have hfb := HB.out j hj
      have HF : Hid (f = firstN kss j ∧ firstN kss (j + 1) = firstN kss j + (m + 1)) := ⟨hf, hs⟩
      have hfb2 : f ≤ 2000000 := by omega
      clear hf hs hlt hfb
      go_wp2
      go_roundw
      case rel => exact ⟨j + 1, f + m + 1, by go_num, by go_num, by rw [HF.out.2, HF.out.1]; omega, by omega, by omega, trivial⟩
      case measure => simp [intOf]; omega
    · have HL : Hid (firstN kss j = firstN kss at_) := HE.out j hj hlt hja
      have HF : Hid (f = firstN kss j) := hf
      have HLT : Hid (¬ (j < at_ ∧ j < n)) := hlt
      clear hf hlt
      by_cases hc : j < at_
      · have h1 : (j : Int) < (at_ : Int) := by omega
        have h2 : ¬ (j : Int) < (n : Int) := by have := HLT.out; omega
        go_wp2
        go_ret
        exact ⟨ret_int (by rw [HF.out, HL.out]), rfl⟩
      · have h1 : ¬ (j : Int) < (at_ : Int) := by omega
        go_wp2
        go_ret
        exact ⟨ret_int (by rw [HF.out, HL.out]), rfl⟩
end Go.Proofs.Ytpophalhmjchkaa
