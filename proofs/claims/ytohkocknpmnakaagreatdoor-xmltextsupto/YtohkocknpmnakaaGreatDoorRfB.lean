/-
  The document's utf8.
-/
import Derived.Test.YtohkocknpmnakaaGreatDoorRfA
namespace Go.Proofs.YtohkocknpmnakaaGreatDoor
open Go.RowKit

theorem conv_cells (w : World) (l : List UInt8) (n : Nat) (hn : n = l.length) (cs : Array Value) (hc : cs.toList = l.map fun c => Value.int .u8 (c.toNat : Int)) :
    (convert 64 9 (.slice (some ⟨w.heap.size, 0, none⟩) n n)).run Tryz.prog (w.alloc (.cells cs 5)) = .ok (.string ⟨l.toArray⟩) (w.alloc (.cells cs 5)) := by
  subst hn
  refine run_convert_bytes_back _ 64 9 5 ⟨w.heap.size, 0, none⟩ l.length l Tryz.underlying64 Tryz.underlying5 Tryz.underlying9 ?_
  intro j hj
  have e : (⟨w.heap.size, 0, none⟩ : Addr).add j = ⟨w.heap.size, j, none⟩ := by cases j <;> simp [Addr.add]
  rw [e, World.cell?_alloc_mark, ← Array.getElem?_toList, hc]
  simp [hj]
theorem u8n (n : Nat) (h : n < 256) : Value.int .u8 (n : Int) = Value.int .u8 ((UInt8.ofNat n).toNat : Int) := by
  congr 2
  rw [UInt8.toNat_ofNat']
  omega

set_option maxRecDepth 20000 in
set_option maxHeartbeats 1600000 in
theorem utf8_ref (n : Nat) (hv : n < 55296 ∨ (57343 < n ∧ n ≤ 1114111)) (w : World) :
    Calls Tryz.prog 75 #[.int .i64 (n : Int)] w fun e w' => e = .returned (.string ⟨(Lib.encodeRune (n : Int)).toArray⟩) ∧ Below w.heap.size w w' := by
  obtain ⟨O, hO⟩ : ∃ O, O = Lib.encodeRune (n : Int) := ⟨_, rfl⟩
  rw [← hO]
  rw [enc_rune n hv, enc_list n hv] at hO
  by_cases a : n < 128
  · rw [if_pos a] at hO
    have hcv := conv_cells w O 1 (by rw [hO]; rfl) #[.int .u8 (n : Int)] (by rw [hO]; simp only [List.map]; rw [u8n n (by omega)])
    have HB : Hid (∀ x, Below w.heap.size w (w.alloc x)) := fun x => (Below.refl _ _).alloc (Nat.le_refl _) _
    clear hO
    go_enter Tryz.func75, Tryz.ntmps75
    go_wp2
    go_ret
    exact ⟨rfl, HB.out _⟩
  · rw [if_neg a] at hO
    by_cases b : n < 2048
    · rw [if_pos b] at hO
      have hcv := conv_cells w O 2 (by rw [hO]; rfl) #[.int .u8 (192 + (n : Int) / 64), .int .u8 (128 + (n : Int) % 64)] (by
        rw [hO]; simp only [List.map]
        rw [← u8n _ (by omega), ← u8n _ (by omega)]
        simp)
      have HB : Hid (∀ x, Below w.heap.size w (w.alloc x)) := fun x => (Below.refl _ _).alloc (Nat.le_refl _) _
      clear hO
      go_enter Tryz.func75, Tryz.ntmps75
      go_wp2
      go_ret
      exact ⟨rfl, HB.out _⟩
    · rw [if_neg b] at hO
      by_cases c : n < 65536
      · rw [if_pos c] at hO
        have hcv := conv_cells w O 3 (by rw [hO]; rfl) #[.int .u8 (224 + (n : Int) / 4096), .int .u8 (128 + (n : Int) / 64 % 64), .int .u8 (128 + (n : Int) % 64)] (by
          rw [hO]; simp only [List.map]
          rw [← u8n _ (by omega), ← u8n _ (by omega), ← u8n _ (by omega)]
          simp)
        have HB : Hid (∀ x, Below w.heap.size w (w.alloc x)) := fun x => (Below.refl _ _).alloc (Nat.le_refl _) _
        have z1 : 2048 ≤ (n : Int) ∧ (n : Int) ≤ 1114111 := by omega
        have z2 : (n : Int) < 65536 := by omega
        clear hO a b c hv
        generalize (n : Int) = z at *
        clear n
        obtain ⟨z1, z3⟩ := z1
        go_enter Tryz.func75, Tryz.ntmps75
        go_wp2
        go_ret
        exact ⟨rfl, HB.out _⟩
      · rw [if_neg c] at hO
        have hcv := conv_cells w O 4 (by rw [hO]; rfl) #[.int .u8 (240 + (n : Int) / 262144), .int .u8 (128 + (n : Int) / 4096 % 64), .int .u8 (128 + (n : Int) / 64 % 64), .int .u8 (128 + (n : Int) % 64)] (by
          rw [hO]; simp only [List.map]
          rw [← u8n _ (by omega), ← u8n _ (by omega), ← u8n _ (by omega), ← u8n _ (by omega)]
          simp)
        have HB : Hid (∀ x, Below w.heap.size w (w.alloc x)) := fun x => (Below.refl _ _).alloc (Nat.le_refl _) _
        have z1 : 2048 ≤ (n : Int) ∧ (n : Int) ≤ 1114111 := by omega
        have z2 : 65536 ≤ (n : Int) := by omega
        clear hO a b c hv
        generalize (n : Int) = z at *
        clear n
        obtain ⟨z1, z3⟩ := z1
        go_enter Tryz.func75, Tryz.ntmps75
        go_wp2
        go_ret
        exact ⟨rfl, HB.out _⟩
end Go.Proofs.YtohkocknpmnakaaGreatDoor
