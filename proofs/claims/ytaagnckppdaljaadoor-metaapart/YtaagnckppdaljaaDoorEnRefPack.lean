/-
  The document's Four, Pack and Put64 by their contracts.
-/
import Derived.Test.YtaagnckppdaljaaDoorEnVal
namespace Go.Proofs.YtaagnckppdaljaaDoor.En
open Go.RowKit

theorem cell_list_new (w : World) (cs : List Value) (t : TypeId) : ∀ j u, cs[j]? = some u → (w.alloc (.cells cs.toArray t)).cell? ((⟨w.heap.size, 0, none⟩ : Addr).add j) = some u := by
  intro j u hj
  rw [Addr.add_lit, World.cell?_alloc_mark]
  simpa using hj
theorem be4_cells (n : Nat) (hn : n < 4294967296) : bcs (be n 4) = [.int .u8 ((n : Int) / 16777216), .int .u8 ((n : Int) / 65536 % 256), .int .u8 ((n : Int) / 256 % 256), .int .u8 ((n : Int) % 256)] := by
  have e : (n : Int) / 16777216 = (n : Int) / 16777216 % 256 := by omega
  rw [e]
  simp only [bcs, be, List.map_cons, List.map_nil, UInt8.toNat_ofNat']
  simp

set_option maxHeartbeats 400000 in
theorem four_any (n : Nat) (w : World) (hn : n < 4294967296) :
    Calls Tryd.prog 49 #[.int .u32 (n : Int)] w fun e w' => e = .returned (.slice (some ⟨w.heap.size, 0, none⟩) 4 4) ∧ (∀ j u, (bcs (be n 4))[j]? = some u → w'.cell? ((⟨w.heap.size, 0, none⟩ : Addr).add j) = some u) ∧ Below w.heap.size w w' := by
  go_enter Tryd.func49, Tryd.ntmps49
  go_wp2
  go_ret
  refine ⟨rfl, ?_, (Below.refl _ _).alloc (Nat.le_refl _) _⟩
  rw [be4_cells n hn]
  exact cell_list_new w _ 5

theorem be_mod (n : Nat) : be (n % 4294967296) 4 = be n 4 := by
  have h : ∀ m k : Nat, k < 4 → UInt8.ofNat (m % 4294967296 / 2 ^ (8 * k)) = UInt8.ofNat (m / 2 ^ (8 * k)) := by
    intro m k hk
    apply UInt8.toNat_inj.1
    rw [UInt8.toNat_ofNat', UInt8.toNat_ofNat']
    match k, hk with
    | 0, _ => simp
    | 1, _ => simp; omega
    | 2, _ => simp; omega
    | 3, _ => simp; omega
  simp only [be, h n 0 (by omega), h n 1 (by omega), h n 2 (by omega), h n 3 (by omega)]
theorem be_8 (n : Nat) : be n 8 = be (n / 4294967296) 4 ++ be n 4 := by
  simp only [be, List.cons_append, List.nil_append, Nat.div_div_eq_div_mul]

theorem own_later {w w1 : World} {base B : Nat} {v : Value} {l : List UInt8} (h : Own w base v l) (hb : Below B w w1) (hB : w.heap.size ≤ B) : Own w1 base v l := by
  have hlt2 := World.ownsRow.lt h
  obtain ⟨q0, ⟨q1, q2⟩ | ⟨g, c', cur, q1, q2, q3, q4⟩⟩ := h
  · exact ⟨q0, .inl ⟨q1, q2⟩⟩
  · refine ⟨q0, .inr ⟨g, c', cur, q1, q2, ?_, q4⟩⟩
    rw [hb.block g (by have := (hlt2 g (by rw [q1]; rfl)).2; omega)]
    exact q3

set_option maxHeartbeats 400000 in
theorem refPut64_any (n : Nat) (w : World) (hn : n < 18446744073709551616) :
    Calls Tryd.prog 35 #[.int .u64 (n : Int)] w fun e w' => ∃ v', e = .returned v' ∧ Own w' w.heap.size v' (be n 8) ∧ Below w.heap.size w w' := by
  obtain ⟨i0, hi, hz0, hz1, hz2⟩ := info_parts info5
  go_enter Tryd.func35, Tryd.ntmps35
  have e1 : ((n : Int) / 4294967296) = ((n / 4294967296 : Nat) : Int) := by omega
  have e2 : ((n : Int) % 4294967296) = ((n % 4294967296 : Nat) : Int) := by omega
  have E1 : Hid (((n : Int) / 4294967296) = ((n / 4294967296 : Nat) : Int)) := e1
  have E2 : Hid (((n : Int) % 4294967296) = ((n % 4294967296 : Nat) : Int)) := e2
  clear e1 e2
  go_wp2_with fail
  rw [E1.out]
  refine (four_any (n / 4294967296) _ (by omega)).mono ?_
  rintro e w1 ⟨rfl, hcells, hb1⟩
  go_wp2_with (at_builtin; refine wpList_append_own _ rfl (.tmp 4) (.tmp 8) 45 rfl w.heap.size 5 i0 (.int .u8 0) 1 1 Tryd.underlying45 hi hz0 hz1 hz2 rfl (by decide) _ _ _ rfl (World.ownsRow_nil _ _ _ _) ⟨w.heap.size, 0, none⟩ 4 4 (bcs (be (n / 4294967296) 4)) rfl ?d0 ?d1 ?d2 ?d3 ?d4 ?d5 ?_)
  case d0 => rw [bcs_length, be_length]
  case d1 => exact hcells
  case d2 => exact bcs_one _
  case d3 => decide
  case d4 => decide
  case d5 => exact hb1.size
  intro v2 w2 hown2 hgrow2 _
  have hO2 : Own w2 w.heap.size v2 (be (n / 4294967296) 4) := hown2
  have hB2 : Below w.heap.size w w2 := hb1.grown hgrow2 hb1.size (by simp [Value.ownBlock])
  have hz := hB2.size
  clear hown2 hgrow2 hcells hb1
  go_wp2_with fail
  rw [E2.out]
  refine (four_any (n % 4294967296) _ (by omega)).mono ?_
  rintro e w3 ⟨rfl, hcells3, hb3⟩
  have hO3 : Own w3 w.heap.size v2 (be (n / 4294967296) 4) := own_later hO2 hb3 (Nat.le_refl _)
  have hB3 : Below w.heap.size w w3 := hB2.trans (hb3.mono hz)
  have hz3 := hB3.size
  clear hO2 hB2
  go_wp2_with (at_builtin; refine wpList_append_own _ rfl (.tmp 10) (.tmp 13) 45 rfl w.heap.size 5 i0 (.int .u8 0) 1 1 Tryd.underlying45 hi hz0 hz1 hz2 rfl (by decide) _ _ _ rfl hO3 ⟨w2.heap.size, 0, none⟩ 4 4 (bcs (be (n % 4294967296) 4)) rfl ?f0 ?f1 ?f2 ?f3 ?f4 ?f5 ?_)
  case f0 => rw [bcs_length, be_length]
  case f1 => exact hcells3
  case f2 => exact bcs_one _
  case f3 => rw [be_length]; decide
  case f4 => rw [be_length]; decide
  case f5 => exact hz3
  intro v4 w4 hown4 hgrow4 _
  have R : Own w4 w.heap.size v4 (be n 8) := by
    rw [be_8]
    unfold Own
    rw [List.length_append, be_length, be_length, bcs_append, ← be_mod n]
    exact hown4
  have hB4 : Below w.heap.size w w4 := hB3.grown hgrow4 hz3 (fun j hj => (World.ownsRow.lt hO3 j hj).1)
  clear hown4 hgrow4 hcells3
  go_wp2
  go_ret
  exact ⟨_, rfl, R, hB4⟩
end Go.Proofs.YtaagnckppdaljaaDoor.En
