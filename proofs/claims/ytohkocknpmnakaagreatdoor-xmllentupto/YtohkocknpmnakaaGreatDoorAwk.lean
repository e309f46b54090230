/-
  awake.
-/
import Derived.Test.YtohkocknpmnakaaGreatDoorPrD
namespace Go.Proofs.YtohkocknpmnakaaGreatDoor
open Go.RowKit

def awkT : List UInt8 := [60, 97, 32, 120, 61, 34, 49, 34, 62, 32, 60, 98, 62, 49, 32, 38, 108, 116, 59, 32, 50, 60, 47, 98, 62, 60, 99, 47, 62, 60, 47, 97, 62]
theorem awk_prs : prsL awkT = some (.nd [97] [] [.nd [98] [49, 32, 60, 32, 50] [], .nd [99] [] []]) := by kernel_rfl
theorem awk_name : nameB [97] = true := by kernel_rfl
theorem awk_legal : (cntP xmlP [120, 38, 121]).isSome = true := by kernel_rfl
theorem awk_leaf : leafL [97] [120, 38, 121] = [60, 63, 120, 109, 108, 32, 118, 101, 114, 115, 105, 111, 110, 61, 34, 49, 46, 48, 34, 32, 101, 110, 99, 111, 100, 105, 110, 103, 61, 34, 85, 84, 70, 45, 56, 34, 63, 62, 10, 60, 97, 62, 120, 38, 97, 109, 112, 59, 121, 60, 47, 97, 62] := by kernel_rfl
theorem Kd.first {G : Nat → Prop} {h : Nat} {w : World} {a : Option Addr} {k : Nod} {ks : List Nod} (hk : Kd G (h + 1) w a (k :: ks)) : ∃ b off, a = some ⟨b, off, none⟩ ∧ b < w.heap.size ∧ w.cell? ⟨b, off + 1, none⟩ = some (.string ⟨k.tx.toArray⟩) := by
  rcases hk with hk | ⟨b, off, rfl, -, hlt, hj⟩
  · cases hk
  · obtain ⟨a', c', -, h2, -⟩ := hj 0 (by simp)
    refine ⟨b, off, rfl, hlt, ?_⟩
    simpa using h2
/-- The text is parsed as it should be. -/
theorem awk_parse (w : World) (hm : Mx w) (he : Er w) :
    Calls Tryz.prog 9 #[.string ⟨awkT.toArray⟩] w fun e w' => ∃ b off c, e = .returned (.tuple #[.agg #[.string ⟨#[97]⟩, .string ⟨#[]⟩, .slice (some ⟨b, off, none⟩) 2 c], .int .i64 0]) ∧ b < w'.heap.size ∧ w'.cell? ⟨b, off + 1, none⟩ = some (.string ⟨#[49, 32, 60, 32, 50]⟩) ∧ Below w.heap.size w w' := by
  refine (parse_any awkT w (by decide) hm he).mono ?_
  rintro e w' ⟨hb, h | h | ⟨-, t, a, c, hp, rfl, hk⟩⟩
  · exact absurd h.1 (by decide)
  · rw [awk_prs] at h
    exact absurd h.2.1 (by simp)
  · rw [awk_prs] at hp
    injection hp with hp
    subst hp
    obtain ⟨b, off, rfl, hlt, h2⟩ := Kd.first (h := 15) hk
    exact ⟨b, off, c, rfl, hlt, h2, hb⟩

set_option maxRecDepth 20000 in
set_option maxHeartbeats 3200000 in
theorem awake_any (w : World) (hm : Mx w) (he : Er w) :
    Calls Tryz.prog 13 #[] w fun e w' => e = .returned (.bool true) ∧ Below w.heap.size w w' := by
  have K1 := awk_parse w hm he
  have KO := (show Hid (∀ W, Calls Tryz.prog 19 #[.string ⟨#[97]⟩, .string ⟨#[120, 38, 121]⟩] W fun e w' => e = .returned (.agg #[.string ⟨#[97]⟩, .string ⟨#[120, 38, 121]⟩, .slice none 0 0]) ∧ Below W.heap.size W w') from fun W => of_any ⟨#[97]⟩ ⟨#[120, 38, 121]⟩ W)
  have KP := (show Hid (∀ W, Calls Tryz.prog 15 #[.agg #[.string ⟨#[97]⟩, .string ⟨#[120, 38, 121]⟩, .slice none 0 0], .bool false] W fun e w' => e = .returned (.tuple #[.string ⟨(leafL [97] [120, 38, 121]).toArray⟩, .int .i64 0]) ∧ Below W.heap.size W w') from fun W => print_leaf [97] [120, 38, 121] W (by decide) (by decide) awk_name awk_legal (by decide) (by rw [awk_leaf]; decide))
  rw [awk_leaf] at KP
  unfold awkT at K1
  clear hm he
  go_enter Tryz.func13, Tryz.ntmps13
  go_wp2_with fail
  refine K1.mono ?_
  rintro e w1 ⟨b, off, c, rfl, hlt, hc, hb1⟩
  have e1 : (w1.alloc (.cells #[.string ⟨#[97]⟩, .string ⟨#[]⟩, .slice (some ⟨b, off, none⟩) 2 c] 24)).heap.size = w1.heap.size + 1 := by show (w1.heap.push _).size = _; simp
  have bA : Below w1.heap.size w1 (w1.alloc (.cells #[.string ⟨#[97]⟩, .string ⟨#[]⟩, .slice (some ⟨b, off, none⟩) 2 c] 24)) := (Below.refl _ _).alloc (Nat.le_refl _) _
  have HS := (show Hid (∀ w2, Below (w1.heap.size + 1) (w1.alloc (.cells #[.string ⟨#[97]⟩, .string ⟨#[]⟩, .slice (some ⟨b, off, none⟩) 2 c] 24)) w2 → w2.cell? ⟨w1.heap.size, 0, none⟩ = some (.string ⟨#[97]⟩) ∧ w2.cell? ⟨w1.heap.size, 2, none⟩ = some (.slice (some ⟨b, off, none⟩) 2 c) ∧ w2.cell? ⟨b, off + 1, none⟩ = some (.string ⟨#[49, 32, 60, 32, 50]⟩) ∧ Below w.heap.size w w2) from fun w2 h => by
    have hA := (h.block w1.heap.size (by omega)).trans (heap_alloc_new w1 (.cells #[.string ⟨#[97]⟩, .string ⟨#[]⟩, .slice (some ⟨b, off, none⟩) 2 c] 24))
    refine ⟨cell_blk hA 0, cell_blk hA 2, ?_, ?_⟩
    · have e : w2.heap[b]? = w1.heap[b]? := (h.block b (by omega)).trans (bA.block b hlt)
      simp only [World.cell?] at hc ⊢
      rw [e]
      exact hc
    · exact (hb1.trans (bA.mono hb1.size)).trans (h.mono (by have := hb1.size; omega)))
  rw [← e1] at HS
  clear K1 bA hc hb1 e1
  go_wp2_with fail
  refine (KO.out _).mono ?_
  generalize w1.alloc (.cells #[.string ⟨#[97]⟩, .string ⟨#[]⟩, .slice (some ⟨b, off, none⟩) 2 c] 24) = wa at *
  rintro e w2 ⟨rfl, hb2⟩
  have hz2 := hb2.size
  go_wp2_with fail
  refine (KP.out _).mono ?_
  rintro e w3 ⟨rfl, hb3⟩
  obtain ⟨c0, c2, c3, h4⟩ := HS.out w3 (hb2.trans (hb3.mono hz2))
  have H4 : Hid (Below w.heap.size w w3) := h4
  clear h4 hb2 hb3 HS hz2
  go_wp2
  go_ret
  exact ⟨rfl, H4.out⟩
end Go.Proofs.YtohkocknpmnakaaGreatDoor
