/-
  Put and Del, told whole.
-/
import Derived.Test.YtpophalhmjchkaaPut
namespace Go.Proofs.Ytpophalhmjchkaa
open Go.RowKit

theorem put_any {AV : Avd} (b h : Nat) (t : T) (k v : ByteArray) (w : World) (ht : Tr w b h t) (hl : (toL h t).length < 1000000000) :
    Calls Try.prog 13 #[.pointer (some ⟨b, 0, none⟩), .string k, .string v] w fun e w' => ∃ b', e = .returned (.pointer (some ⟨b', 0, none⟩)) ∧ Got w w' b' (putL k v (toL h t)) := by
  cases hf : (getL k (toL h t)).isSome with
  | true => exact put_old b h t k v w ht hf hl
  | false => exact put_new b h t k v w ht hf hl

set_option maxHeartbeats 4000000 in
set_option maxRecDepth 20000 in
theorem del_none {AV : Avd} (b h : Nat) (t : T) (k : ByteArray) (w : World) (ht : Tr w b h t) (hf : (getL k (toL h t)).isSome = false) :
    Calls Try.prog 12 #[.pointer (some ⟨b, 0, none⟩), .string k] w fun e w' => e = .returned (.tuple #[.pointer (some ⟨b, 0, none⟩), .bool false]) ∧ Below w.heap.size w w' := by
  have hB : Below w.heap.size w (w.alloc (.cells #[.string k] 9)) := (Below.refl _ _).alloc (Nat.le_refl _) _
  have hget := get_any b h t k _ (ht.below hB)
  rw [hf] at hget
  have HB : Hid (∀ w2, Below (w.alloc (.cells #[.string k] 9)).heap.size (w.alloc (.cells #[.string k] 9)) w2 → Below w.heap.size w w2) := fun w2 hb => hB.trans (hb.mono hB.size)
  clear hB hf ht
  go_enter Try.func12, Try.ntmps12
  go_wp2_with (go_at_call 10; refine Calls.mono hget ?_; rintro e w2 ⟨rfl, hb2⟩; have hb3 := HB.out w2 hb2; clear HB hget)
  go_ret2
  exact ⟨rfl, hb3⟩

set_option maxHeartbeats 4000000 in
set_option maxRecDepth 20000 in
theorem del_some {AV : Avd} (b h : Nat) (t : T) (k : ByteArray) (w : World) (ht : Tr w b h t) (hf : (getL k (toL h t)).isSome = true) (hl : (toL h t).length < 1000000000) :
    Calls Try.prog 12 #[.pointer (some ⟨b, 0, none⟩), .string k] w fun e w' => ∃ b', e = .returned (.tuple #[.pointer (some ⟨b', 0, none⟩), .bool true]) ∧ Got w w' b' (delL k (toL h t)) := by
  have hne : (toL h t).length ≠ 0 := by
    intro h0
    rw [List.length_eq_zero_iff.1 h0] at hf
    simp [getL] at hf
  have hlen : (delL k (toL h t)).length = (toL h t).length - 1 := by
    have := delL_len k (toL h t)
    rw [hf] at this
    simpa using this
  obtain ⟨W, hW⟩ : ∃ W, W = w.alloc (.cells #[.string k] 9) := ⟨_, rfl⟩
  have hB : Below w.heap.size w W := by rw [hW]; exact (Below.refl _ _).alloc (Nat.le_refl _) _
  have hx1 : Bx W w.heap.size k := by rw [hW]; exact ⟨by simp, cell_blk (heap_alloc_new w _) 0⟩
  have htW := ht.below hB
  have hget := get_any b h t k W htW
  obtain ⟨v0, g1, g2, g3⟩ := htW
  rw [hf] at hget
  have hbl : b < W.heap.size := (Array.getElem?_eq_some_iff.1 g1).1
  have hfl : (getL k (leafL k h t)).isSome = true := by rw [← (leaf_get g3.val (inB_none k)).2]; exact hf
  have HR : Hid (∀ w2, Below W.heap.size W w2 → (w2.drew.cell? ⟨b, 0, none⟩ = some v0 ∧ w2.drew.cell? ⟨b, 1, none⟩ = some (.int .i64 ((toL h t).length : Int)) ∧ w2.drew.cell? ⟨w.heap.size, 0, none⟩ = some (.string k)) ∧ Calls Try.prog 23 #[v0, .string k, (.func (.func 24) #[] #[.pointer (some ⟨w.heap.size, 0, none⟩)])] w2.drew (fun e w3 => ∃ rb, e = .returned (.pointer (some ⟨rb, 0, none⟩)) ∧ (w3.cell? ⟨b, 0, none⟩ = some v0 ∧ w3.cell? ⟨b, 1, none⟩ = some (.int .i64 ((toL h t).length : Int)) ∧ w3.cell? ⟨w.heap.size, 0, none⟩ = some (.string k)) ∧
      Calls Try.prog 26 #[.pointer (some ⟨rb, 0, none⟩)] w3 (fun e w4 => ∃ ty bx, e = .returned (.iface ty (.pointer (some ⟨bx, 0, none⟩))) ∧ (w4.cell? ⟨b, 0, none⟩ = some v0 ∧ w4.cell? ⟨b, 1, none⟩ = some (.int .i64 ((toL h t).length : Int)) ∧ w4.cell? ⟨w.heap.size, 0, none⟩ = some (.string k)) ∧ Got w (w4.alloc (.cells #[.iface ty (.pointer (some ⟨bx, 0, none⟩)), .int .i64 (((toL h t).length : Int) - 1)] 63)) w4.heap.size (delL k (toL h t))))) := (by
    intro w2 hb2
    have hS : ∀ q, Below W.heap.size W q → q.cell? ⟨b, 0, none⟩ = some v0 ∧ q.cell? ⟨b, 1, none⟩ = some (.int .i64 ((toL h t).length : Int)) ∧ q.cell? ⟨w.heap.size, 0, none⟩ = some (.string k) := fun q hq => ⟨(hq.cell (p := ⟨b, 0, none⟩) hbl).trans (cell_blk g1 0), (hq.cell (p := ⟨b, 1, none⟩) hbl).trans (cell_blk g1 1), (hx1.below hq).cell⟩
    have hb2 : Below W.heap.size W w2.drew := hb2.drew
    refine ⟨hS _ hb2, ?_⟩
    refine Calls.mono (changeD k w.heap.size h t v0 none none w2.drew (g2.below hb2) g3.val (inB_none k) g3.max g3.min (hx1.below hb2) hfl) ?_
    rintro e w3 ⟨rb, rfl, hr3, hb3⟩
    have hb3 : Below W.heap.size W w3 := hb2.trans (hb3.mono hb2.size)
    refine ⟨rb, rfl, hS _ hb3, ?_⟩
    have hc := chg_val (edit_del k) g3.val (inB_none k) g3.max g3.min
    refine Calls.mono (top_any rb h _ _ none none w3 hr3 hc.row) ?_
    rintro e w4 ⟨v', rfl, hn4, hb4⟩
    have hb4 : Below W.heap.size W w4 := hb3.trans (hb4.mono hb3.size)
    obtain ⟨ty, bx, rfl⟩ := hn4.ptr
    exact ⟨ty, bx, rfl, hS _ hb4, got_top (edit_del k) g3 hn4 (by rw [hlen]; omega) (hB.trans (hb4.mono hB.size))⟩)
  have hmf : ∀ (fn : Fn) (first cap : Array Value) (w : World), (Instr.makeFunc fn first cap).run Try.prog w = .ok (.func fn first cap) w := fun _ _ _ _ => rfl
  obtain ⟨PL, hPL⟩ : ∃ PL, PL = delL k (toL h t) := ⟨_, rfl⟩
  rw [← hPL] at HR ⊢
  obtain ⟨n, hn⟩ : ∃ n, n = (toL h t).length := ⟨_, rfl⟩
  rw [← hn] at HR hl
  have hw1 : IntKind.i64.wrap ((n : Int) - 1) = (n : Int) - 1 := by rw [IntKind.wrap_i64]; omega
  have c1 := hx1.cell
  clear hx1 hB g1 g2 g3 hbl hlen hf hn hPL ht hl hne hfl
  subst hW
  go_enter Try.func12, Try.ntmps12
  go_wp2_with (go_at_call 10; refine Calls.mono hget ?_; rintro e w2 ⟨rfl, hb2⟩; obtain ⟨⟨s0, s1, s2⟩, HC⟩ := HR.out w2 hb2; clear HR hget)
  clear c1
  go_region_held3 (fun w' => w'.cell? ⟨b, 0, none⟩ = some v0 ∧ w'.cell? ⟨b, 1, none⟩ = some (.int .i64 (n : Int)) ∧ w'.cell? ⟨w.heap.size, 0, none⟩ = some (.string k)) (go_keep)
    (first
      | (go_at_call 23; refine Calls.mono HC ?_; rintro e w3 ⟨rb, rfl, ⟨u0, u1, u2⟩, HT⟩)
      | (go_at_call 26; refine Calls.mono HT ?_; rintro e w4 ⟨ty, bx, rfl, ⟨y0, y1, y2⟩, hG⟩))
  all_goals
    (go_wp2
     go_ret2
     exact ⟨_, rfl, hG⟩)
end Go.Proofs.Ytpophalhmjchkaa
