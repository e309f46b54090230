/-
  The level below a level.
-/
import Derived.Test.YtpophalhmjchkaaKeys
namespace Go.Proofs.Ytpophalhmjchkaa
open Go.RowKit

def T.kids : T → List T
  | .leaf _ => []
  | .inner _ cs => cs
def kids (ts : List T) : List T := ts.flatMap T.kids
theorem kids_take {ts : List T} {j : Nat} (h : j < ts.length) : kids (ts.take (j + 1)) = kids (ts.take j) ++ ts[j].kids := by
  rw [List.take_succ_eq_append_getElem h, kids, kids, List.flatMap_append]
  simp
theorem kids_le (ts : List T) (j : Nat) : (kids (ts.take j)).length ≤ (kids ts).length := by
  conv => rhs; rw [← List.take_append_drop j ts, kids, List.flatMap_append, List.length_append]
  exact Nat.le_add_right _ _

set_option maxHeartbeats 4000000 in
set_option maxRecDepth 20000 in
theorem below_inner (a : Option Addr) (c g : Nat) (vs : List Value) (ts : List T) (w0 w : World) (hb0 : Below w0.heap.size w0 w) (h : Sl w 1 a ts.length c vs) (hv : All2 (Nd w0 (g + 1)) vs ts) (hn : ts.length ≤ 100000000) (hk : (kids ts).length ≤ 100000000) :
    Calls Try.prog 33 #[.slice a ts.length c] w fun e w' => ∃ u us, e = .returned u ∧ w'.ownsRow w.heap.size 61 1 u us.length us ∧ All2 (Nd w0 g) us (kids ts) ∧ Below w.heap.size w w' := by
  obtain ⟨i0, hi, hz0, hz1, hz2⟩ := info_parts info61
  have hvl := hv.len
  obtain ⟨n, hnl⟩ : ∃ n, n = ts.length := ⟨_, rfl⟩
  have HA : Hid (∀ j, j < n → ∃ b off, a = some ⟨b, off, none⟩ ∧ ∃ b1 cs a2 c2 ws, (∀ w1, Below w.heap.size w w1 → w1.cell? ⟨b, off + j, none⟩ = some (.iface 66 (.pointer (some ⟨b1, 0, none⟩))) ∧ w1.cell? ⟨b1, 1, none⟩ = some (.slice a2 cs.length c2) ∧ Sl w1 1 a2 cs.length c2 ws) ∧ All2 (Nd w0 g) ws cs ∧ kids (ts.take (j + 1)) = kids (ts.take j) ++ cs) := (by
    intro j hj
    obtain ⟨b, off, rfl, hbl, hc⟩ := h.at (j := j) (by omega)
    have hnd := hv.get (j := j) (by omega) (by omega)
    have hc0 := hc j (by omega)
    have hkt := kids_take (ts := ts) (j := j) (by omega)
    refine ⟨b, off, rfl, ?_⟩
    generalize vs[j]'(by omega) = x at hnd hc0
    generalize ts[j]'(by omega) = t at hnd hkt
    match t, hnd with
    | .inner bs cs, hnd =>
      obtain ⟨b1, rfl, hr⟩ := hnd
      obtain ⟨a1, c1, a2, c2, ws, q1, q2, q3, q4⟩ := hr
      have hb1 : b1 < w0.heap.size := (Array.getElem?_eq_some_iff.1 q1).1
      exact ⟨b1, cs, a2, c2, ws, fun w1 hb => ⟨(hb.cell (p := ⟨b, off + j, none⟩) hbl).trans hc0, ((hb0.trans (hb.mono hb0.size)).cell (p := ⟨b1, 1, none⟩) hb1).trans (cell_blk q1 1), q3.below (hb0.trans (hb.mono hb0.size))⟩, q4, hkt⟩
    | .leaf _, hnd => exact hnd.elim)
  have HL : Hid (∀ j, (kids (ts.take j)).length ≤ 100000000) := fun j => Nat.le_trans (kids_le ts j) hk
  have HT : Hid (ts.take n = ts) := List.take_of_length_le (Nat.le_of_eq hnl.symm)
  rw [← hnl] at hn ⊢
  clear h hv hnl hvl hk hb0
  go_enter Try.func33, Try.ntmps33
  go_wp2
  go_loopw [3, 10] (fun u i wr => ∃ j : Nat, j ≤ n ∧ i = .int .i64 j ∧ ∃ us, wr.ownsRow w.heap.size 61 1 u us.length us ∧ All2 (Nd w0 g) us (kids (ts.take j)) ∧ Below w.heap.size w wr) (fun _ i _ => n - (intOf i).toNat)
  case atStart => exact ⟨0, Nat.zero_le _, rfl, [], World.ownsRow_nil _ _ _ _, trivial, Below.refl _ _⟩
  case round =>
    obtain ⟨j, hj, rfl, us, hown, hall, hbw⟩ := hrel
    by_cases hjn : j < n
    · obtain ⟨b, off, rfl, b1, cs, a2, c2, ws, hxy, hws, hkt⟩ := HA.out j hjn
      obtain ⟨d0, d1, d2⟩ := hxy wr hbw
      have hl1 := HL.out (j + 1)
      rw [hkt, List.length_append, ← hall.len] at hl1
      have hji : (j : Int) < (n : Int) := by omega
      have ht := fun w => ta_ix (.pointer (some ⟨b1, 0, none⟩)) w
      have HN : Hid (All2 (Nd w0 g) (us ++ ws) (kids (ts.take (j + 1)))) := (by rw [hkt]; exact hall.app hws)
      have HLW : Hid (ws.length = cs.length) := hws.len
      have HOB : Hid (∀ g, u3.ownBlock = some g → w.heap.size ≤ g) := fun g hg => (owns_lt hown g hg).1
      have hsz := hbw.size
      have HB : Hid (Below w.heap.size w wr) := hbw
      clear hxy hkt HA HT hbw hall hws HL
      go_wp2_with (at_builtin; refine wpList_append_sl rfl (.tmp 20) (.tmp 24) 80 rfl w.heap.size 61 i0 .nilIface 1 16 Try.underlying80 hi hz0 hz1 hz2 rfl (by decide) (by decide) _ us.length us rfl hown a2 cs.length c2 ws rfl d2 (by omega) hsz ?_; intro v2 w2 ho2 hg2)
      go_roundw
      case rel => exact ⟨j + 1, by omega, by go_num, us ++ ws, by rw [List.length_append, HLW.out]; exact ho2, HN.out, HB.out.grown hg2 hsz HOB.out⟩
      case measure => simp [intOf]; omega
    · have HJ : Hid (j = n) := (show j = n by omega)
      have hji : ¬ ((j : Int) < (n : Int)) := by omega
      clear HA HL
      go_wp2
      go_ret
      exact ⟨_, rfl, us, hown, by rw [← HT.out, ← HJ.out]; exact hall, hbw⟩

set_option maxHeartbeats 4000000 in
set_option maxRecDepth 20000 in
theorem below_leaf (a : Option Addr) (c : Nat) (vs : List Value) (ts : List T) (w : World) (h : Sl w 1 a ts.length c vs) (hv : All2 (Nd w 0) vs ts) (hn : ts.length ≤ 100000000) :
    Calls Try.prog 33 #[.slice a ts.length c] w fun e w' => e = .returned (.slice none 0 0) ∧ Below w.heap.size w w' := by
  have hvl := hv.len
  obtain ⟨n, hnl⟩ : ∃ n, n = ts.length := ⟨_, rfl⟩
  have HA : Hid (∀ j, j < n → ∃ b off, a = some ⟨b, off, none⟩ ∧ ∃ b1, (∀ w1, Below w.heap.size w w1 → w1.cell? ⟨b, off + j, none⟩ = some (.iface 56 (.pointer (some ⟨b1, 0, none⟩))))) := (by
    intro j hj
    obtain ⟨b, off, rfl, hbl, hc⟩ := h.at (j := j) (by omega)
    have hnd := hv.get (j := j) (by omega) (by omega)
    have hc0 := hc j (by omega)
    refine ⟨b, off, rfl, ?_⟩
    generalize vs[j]'(by omega) = x at hnd hc0
    generalize ts[j]'(by omega) = t at hnd
    match t, hnd with
    | .leaf _, hnd =>
      obtain ⟨b1, rfl, hr⟩ := hnd
      exact ⟨b1, fun w1 hb => (hb.cell (p := ⟨b, off + j, none⟩) hbl).trans hc0⟩
    | .inner _ _, hnd => exact hnd.elim)
  rw [← hnl] at hn ⊢
  clear h hv hnl hvl
  go_enter Try.func33, Try.ntmps33
  go_wp2
  go_loopw [3, 10] (fun u i wr => ∃ j : Nat, j ≤ n ∧ i = .int .i64 j ∧ u = .slice none 0 0 ∧ Below w.heap.size w wr) (fun _ i _ => n - (intOf i).toNat)
  case atStart => exact ⟨0, Nat.zero_le _, rfl, rfl, Below.refl _ _⟩
  case round =>
    obtain ⟨j, hj, rfl, rfl, hbw⟩ := hrel
    by_cases hjn : j < n
    · obtain ⟨b, off, rfl, b1, hxy⟩ := HA.out j hjn
      have d0 := hxy wr hbw
      have hji : (j : Int) < (n : Int) := by omega
      have ht := fun w => ta_lx (.pointer (some ⟨b1, 0, none⟩)) w
      have HB : Hid (Below w.heap.size w wr) := hbw
      clear hxy HA hbw
      go_wp2
      go_roundw
      case rel => exact ⟨j + 1, by omega, by go_num, rfl, HB.out⟩
      case measure => simp [intOf]; omega
    · have hji : ¬ ((j : Int) < (n : Int)) := by omega
      clear HA
      go_wp2
      go_ret
      exact ⟨rfl, hbw⟩
end Go.Proofs.Ytpophalhmjchkaa
