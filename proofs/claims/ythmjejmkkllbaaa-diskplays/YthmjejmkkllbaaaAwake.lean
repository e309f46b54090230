/-
  'awake' by its contract.
-/
import Derived.Test.YthmjejmkkllbaaaNew
import Derived.Test.YthmjejmkkllbaaaWrite
import Derived.Test.YthmjejmkkllbaaaCrash
import Derived.Test.YthmjejmkkllbaaaRead
import Derived.Test.YthmjejmkkllbaaaSector
namespace Go.Proofs.Ythmjejmkkllbaaa
open Go.RowKit

theorem blank_size : blank.size = 256 := by
  show (List.replicate 256 (0 : UInt8)).toArray.size = 256
  rw [List.size_toArray, List.length_replicate]
theorem kept_nil (C : List (Nat × ByteArray)) : kept [] C = [] := by
  have : ∀ (l : List ((Nat × ByteArray) × Nat)), l.filter (fun p => ([] : List Bool).getD p.2 false) = [] := by
    intro l
    rw [List.filter_eq_nil_iff]
    intro a _
    simp
  rw [kept, this]
  rfl
theorem crash_nil (M : D) : M.crash [] = { L := M.L, S := M.L, C := [], st := 0, k := 0 } := by
  rw [D.crash, kept_nil]
  rfl

/-- A row of bytes of one's own, as one that came in. -/
theorem own_bytes {w : World} {base g n cap : Nat} {l : List UInt8} (h : w.ownsRow base 5 1 (.slice (some ⟨g, 0, none⟩) n cap) n (bcs l)) : Bytes w (some ⟨g, 0, none⟩) l := by
  refine .inr ⟨g, 0, rfl, (World.ownsRow.lt h g rfl).2, fun j hj => ?_⟩
  rw [Nat.zero_add]
  exact owns_cell h (bcs_get hj)

theorem new_wr {n : Nat} (i : Nat) (b : ByteArray) (hi : i < n) (hb : b.size = 256) : (D.new n blank).wr (i : Int) b = (0, { L := List.replicate n blank, S := (List.replicate n blank).set i b, C := [(i, b)], st := 0, k := 0 }) := by
  rw [wr_done (.inr ⟨by omega, by simp [D.new]; omega, hb⟩) (by simp [D.burn, D.new])]
  simp [D.burn, D.new]

set_option maxHeartbeats 4000000 in
set_option maxRecDepth 20000 in
theorem awake_any (w : World) : Calls Try.prog 8 #[] w fun e w' => e = .returned (.bool true) ∧ Below w.heap.size w w' := by
  obtain ⟨i0, hi, hz0, hz1, hz2⟩ := info_parts info5
  have hm : i0.bytes * 256 ≤ 281474976710656 := by rw [hz2]; omega
  have hnew := new_ok 4 w (by omega) (by omega)
  go_enter Try.func8, Try.ntmps8
  go_wp2_with fail
  refine Calls.mono hnew ?_
  rintro e w1 ⟨d, rfl, hD1, hb1⟩
  clear hnew
  have HD1 : Hid (Dev w1 (fun k => w.heap.size ≤ k ∧ k < w1.heap.size) d (D.new 4 blank)) := hD1
  have HB1 : Hid (Below w.heap.size w w1) := hb1
  clear hD1 hb1
  have hmk : ∀ w2 : World, w2.ownsRow w1.heap.size 5 1 (.slice (some ⟨w1.heap.size, 0, none⟩) 256 256) 256 (bcs (List.replicate 256 0)) → ∃ x, w2.cell? ⟨w1.heap.size, 0, none⟩ = some x ∧ w2.frozen? ⟨w1.heap.size, 0, none⟩ = false := fun w2 h => ⟨_, owns_cell h (bcs_get (by simp)), owns_frozen h 0⟩
  have HMK := (show Hid _ from hmk)
  clear hmk
  go_wp2_with (first
    | (at_make; refine wpList_make_full _ rfl _ _ 31 rfl w1.heap.size 5 i0 (.int .u8 0) 1 Try.underlying31 hi hz0 hz1 _ _ _ _ 256 rfl rfl (by omega) (by omega) hm (by unfold maxLen; omega) (Nat.le_refl _) ?_; intro w2 hown2 hgrow2; rw [made_bytes] at hown2; obtain ⟨x0, hx0, hx1⟩ := HMK.out w2 hown2; have HO2 := (show Hid (w2.ownsRow w1.heap.size 5 1 (.slice (some ⟨w1.heap.size, 0, none⟩) 256 256) 256 (bcs (List.replicate 256 0)) ∧ w1.grownBy w2 none) from ⟨hown2, hgrow2⟩); clear hown2 hgrow2)
    | fail)
  obtain ⟨l7, hlen7, hb7⟩ : ∃ l7 : List UInt8, l7.length = 256 ∧ (w2.setCell ⟨w1.heap.size, 0, none⟩ (.int .u8 7)).ownsRow w1.heap.size 5 1 (.slice (some ⟨w1.heap.size, 0, none⟩) 256 256) 256 (bcs l7) := by
    refine ⟨(List.replicate 256 0).set 0 7, by rw [List.length_set, List.length_replicate], ?_⟩
    rw [bcs_set]
    exact owns_set HO2.out.1 0 _
  obtain ⟨W, hW⟩ : ∃ W, W = w2.setCell ⟨w1.heap.size, 0, none⟩ (.int .u8 7) := ⟨_, rfl⟩
  have hT : Turn (fun _ => False) w1 W := by
    rw [hW]
    exact (Turn.of_grown HO2.out.2 (by simp)).setCell' (Nat.le_refl _) _
  rw [← hW] at hb7 ⊢
  have hDW := HD1.out.other hT (fun _ _ h => h)
  have hwr := write_any d 1 (some ⟨w1.heap.size, 0, none⟩) l7 256 W _ _ hDW (own_bytes hb7) (by intro ad e h; simp only [Option.some.injEq] at e; subst e; exact Nat.lt_irrefl _ h.2) (by simp [D.new])
  have hbs : (⟨l7.toArray⟩ : ByteArray).size = 256 := by rw [← hlen7]; simp [ByteArray.size]
  have hnw := new_wr (n := 4) 1 ⟨l7.toArray⟩ (by omega) hbs
  rw [show ((1 : Nat) : Int) = 1 from rfl] at hnw
  rw [hnw, hlen7] at hwr
  have HB2 : Hid (Below w.heap.size w W) := HB1.out.trans (hT.below (by simp) HB1.out.size)
  have hs2 : w.heap.size ≤ W.heap.size := HB2.out.size
  clear hW hnw hbs hDW hb7 hT HO2 hx0 hx1 HD1 HMK
  refine Calls.mono hwr ?_
  rintro e w3 ⟨rfl, hD3, hT3⟩
  clear hwr
  have hs3 := hT3.size
  have HB3 : Hid (Below w.heap.size w w3) := HB2.out.trans (hT3.below (fun k hk => hk.1) hs2)
  have hpe := pending_any d w3 _ _ hD3
  have HD3 := (show Hid (Dev w3 (Grow (fun k => w.heap.size ≤ k ∧ k < w1.heap.size) W w3) d { L := List.replicate 4 blank, S := (List.replicate 4 blank).set 1 ⟨l7.toArray⟩, C := [(1, ⟨l7.toArray⟩)], st := 0, k := 0 }) from hD3)
  clear hD3 hT3
  go_wp2_with fail
  refine Calls.mono hpe ?_
  rintro e w4 ⟨rfl, rfl⟩
  clear hpe
  have hcr := crash_any d none [] 0 w3 _ _ HD3.out (.inl rfl) (by simp) (by simp)
  rw [crash_nil] at hcr
  go_wp2_with fail
  refine Calls.mono hcr ?_
  rintro e w4 ⟨rfl, hD4, hT4⟩
  clear hcr HD3
  have hs4 := hT4.size
  have HB4 : Hid (Below w.heap.size w w4) := HB3.out.trans (hT4.below (fun k hk => by rcases hk with hk | hk; exact hk.1; omega) HB3.out.size)
  have hrd := read_ok d 1 w4 _ _ hD4 (by simp) (by simp)
  have hsz := size_any d
  simp only [List.getElem_replicate, blank_size] at hrd
  have HD4 := (show Hid (Dev w4 (Grow (Grow (fun k => w.heap.size ≤ k ∧ k < w1.heap.size) W w3) w3 w4) d { L := List.replicate 4 blank, S := List.replicate 4 blank, C := [], st := 0, k := 0 }) from hD4)
  clear hD4 hT4
  go_wp2_with fail
  refine Calls.mono hrd ?_
  rintro e w5 ⟨g5, c5, rfl, hf5, hg5, hb5⟩
  clear hrd
  have HB5 : Hid (Below w.heap.size w w5) := HB4.out.trans (hb5.mono HB4.out.size)
  have hc5 := hf5.cell 0 (by rw [blank_size]; omega)
  rw [show (blank[0]'(by rw [blank_size]; omega)).toNat = 0 from by rfl] at hc5
  have hsz5 := hsz w5 _ _ (HD4.out.below hb5)
  simp only [List.length_replicate] at hsz5
  clear hf5 hb5 hsz
  go_wp2_with (go_at_call 24; refine Calls.mono hsz5 ?_; rintro e w6 ⟨rfl, rfl⟩)
  go_ret
  exact ⟨rfl, HB5.out⟩
end Go.Proofs.Ythmjejmkkllbaaa
