/-
  Put.
-/
import Derived.Test.YtpophalhmjchkaaChangeD
namespace Go.Proofs.Ytpophalhmjchkaa
open Go.RowKit

theorem Nd.ptr {AV : Avd} {w : World} : ∀ {h : Nat} {v : Value} {t : T}, Nd w h v t → ∃ ty bx, v = .iface ty (.pointer (some ⟨bx, 0, none⟩))
  | 0, _, .leaf _, hn => by obtain ⟨bx, rfl, _⟩ := hn; exact ⟨56, bx, rfl⟩
  | _ + 1, _, .inner _ _, hn => by obtain ⟨bx, rfl, _⟩ := hn; exact ⟨66, bx, rfl⟩
  | 0, _, .inner _ _, hn => hn.elim
  | _ + 1, _, .leaf _, hn => hn.elim
/-- What a change gives: a tree that holds L. -/
def Got [Avd] (w W : World) (b : Nat) (L : List KV) : Prop := ∃ h t, Tr W b h t ∧ toL h t = L ∧ Below w.heap.size w W

theorem got_top {AV : Avd} {w w4 : World} {k : ByteArray} {E : List KV → List KV} (hE : Edit k E) {h : Nat} {t : T} (hw : Whole h t) {v : Value} {N : Int} (hn : Nd w4 (topN (h + 1) (.inner (chgT k E h t).1 (chgT k E h t).2)) v (topT (h + 1) (.inner (chgT k E h t).1 (chgT k E h t).2))) (hN : ((E (toL h t)).length : Int) = N) (hb : Below w.heap.size w w4) : Got w (w4.alloc (.cells #[v, .int .i64 N] 63)) w4.heap.size (E (toL h t)) := by
  obtain ⟨c1, c2⟩ := chg_top hE hw
  have hB : Below w4.heap.size w4 (w4.alloc (.cells #[v, .int .i64 N] 63)) := (Below.refl _ _).alloc (Nat.le_refl _) _
  refine ⟨_, _, ⟨v, ?_, hn.below hB, c1⟩, c2, hb.trans (hB.mono hb.size)⟩
  rw [c2, hN]
  exact heap_alloc_new w4 _

set_option maxHeartbeats 4000000 in
set_option maxRecDepth 20000 in
theorem put_old {AV : Avd} (b h : Nat) (t : T) (k v : ByteArray) (w : World) (ht : Tr w b h t) (hf : (getL k (toL h t)).isSome = true) (hl : (toL h t).length < 1000000000) :
    Calls Try.prog 13 #[.pointer (some ⟨b, 0, none⟩), .string k, .string v] w fun e w' => ∃ b', e = .returned (.pointer (some ⟨b', 0, none⟩)) ∧ Got w w' b' (putL k v (toL h t)) := by
  have hlen : (putL k v (toL h t)).length = (toL h t).length := by
    have := putL_len k v (toL h t)
    rw [hf] at this
    simpa using this
  obtain ⟨W, hW⟩ : ∃ W, W = (w.alloc (.cells #[.string k] 9)).alloc (.cells #[.string v] 9) := ⟨_, rfl⟩
  have hB1 : Below w.heap.size w (w.alloc (.cells #[.string k] 9)) := (Below.refl _ _).alloc (Nat.le_refl _) _
  have hB2 : Below (w.alloc (.cells #[.string k] 9)).heap.size (w.alloc (.cells #[.string k] 9)) W := by rw [hW]; exact (Below.refl _ _).alloc (Nat.le_refl _) _
  have hB : Below w.heap.size w W := hB1.trans (hB2.mono hB1.size)
  have hs1 : (w.alloc (.cells #[.string k] 9)).heap.size = w.heap.size + 1 := by simp
  have hx1 : Bx W w.heap.size k := Bx.below ⟨by rw [hs1]; omega, cell_blk (heap_alloc_new w _) 0⟩ hB2
  have hx2 : Bx W (w.heap.size + 1) v := by
    rw [← hs1]
    exact ⟨by rw [hW]; simp, by rw [hW]; exact cell_blk (heap_alloc_new _ _) 0⟩
  have htW := ht.below hB
  have hget := get_any b h t k W htW
  obtain ⟨v0, g1, g2, g3⟩ := htW
  rw [hf] at hget
  have k1 : W.cell? ⟨b, 1, none⟩ = some (.int .i64 ((toL h t).length : Int)) := cell_blk g1 1
  have hbl : b < W.heap.size := (Array.getElem?_eq_some_iff.1 g1).1
  have HR : Hid (∀ w2, Below W.heap.size W w2 → (w2.drew.cell? ⟨b, 0, none⟩ = some v0 ∧ w2.drew.cell? ⟨w.heap.size, 0, none⟩ = some (.string k)) ∧ Calls Try.prog 23 #[v0, .string k, (.func (.func 27) #[] #[.pointer (some ⟨w.heap.size, 0, none⟩), .pointer (some ⟨w.heap.size + 1, 0, none⟩)])] w2.drew (fun e w3 => ∃ rb, e = .returned (.pointer (some ⟨rb, 0, none⟩)) ∧ (w3.cell? ⟨b, 0, none⟩ = some v0 ∧ w3.cell? ⟨w.heap.size, 0, none⟩ = some (.string k)) ∧
      Calls Try.prog 26 #[.pointer (some ⟨rb, 0, none⟩)] w3 (fun e w4 => ∃ ty bx, e = .returned (.iface ty (.pointer (some ⟨bx, 0, none⟩))) ∧ (w4.cell? ⟨b, 0, none⟩ = some v0 ∧ w4.cell? ⟨w.heap.size, 0, none⟩ = some (.string k)) ∧ Got w (w4.alloc (.cells #[.iface ty (.pointer (some ⟨bx, 0, none⟩)), .int .i64 (((toL h t).length : Int))] 63)) w4.heap.size (putL k v (toL h t))))) := (by
    intro w2 hb2
    have hS : ∀ q, Below W.heap.size W q → q.cell? ⟨b, 0, none⟩ = some v0 ∧ q.cell? ⟨w.heap.size, 0, none⟩ = some (.string k) := fun q hq => ⟨(hq.cell (p := ⟨b, 0, none⟩) hbl).trans (cell_blk g1 0), (hx1.below hq).cell⟩
    have hb2 : Below W.heap.size W w2.drew := hb2.drew
    refine ⟨hS _ hb2, ?_⟩
    refine Calls.mono (changeP k v w.heap.size (w.heap.size + 1) h t v0 none none w2.drew (g2.below hb2) g3.val (inB_none k) g3.max g3.min (hx1.below hb2) (hx2.below hb2)) ?_
    rintro e w3 ⟨rb, rfl, hr3, hb3⟩
    have hb3 : Below W.heap.size W w3 := hb2.trans (hb3.mono hb2.size)
    refine ⟨rb, rfl, hS _ hb3, ?_⟩
    have hc := chg_val (edit_put k v) g3.val (inB_none k) g3.max g3.min
    refine Calls.mono (top_any rb h _ _ none none w3 hr3 hc.row) ?_
    rintro e w4 ⟨v', rfl, hn4, hb4⟩
    have hb4 : Below W.heap.size W w4 := hb3.trans (hb4.mono hb3.size)
    obtain ⟨ty, bx, rfl⟩ := hn4.ptr
    exact ⟨ty, bx, rfl, hS _ hb4, got_top (edit_put k v) g3 hn4 (by rw [hlen]) (hB.trans (hb4.mono hB.size))⟩)
  have hmf : ∀ (fn : Fn) (first cap : Array Value) (w : World), (Instr.makeFunc fn first cap).run Try.prog w = .ok (.func fn first cap) w := fun _ _ _ _ => rfl
  obtain ⟨PL, hPL⟩ : ∃ PL, PL = putL k v (toL h t) := ⟨_, rfl⟩
  rw [← hPL] at HR ⊢
  obtain ⟨n, hn⟩ : ∃ n, n = (toL h t).length := ⟨_, rfl⟩
  rw [← hn] at HR k1 hl
  have hli : (n : Int) < 1000000000 := by omega
  have hw1 : IntKind.i64.wrap ((n : Int) + 1) = (n : Int) + 1 := by rw [IntKind.wrap_i64]; omega
  have c1 := hx1.cell
  clear hx1 hx2 hB1 hB2 hB hs1 g1 g2 g3 hbl hlen hf hn hPL ht hl
  subst hW
  go_enter Try.func13, Try.ntmps13
  go_wp2_with (go_at_call 10; refine Calls.mono hget ?_; rintro e w2 ⟨rfl, hb2⟩; obtain ⟨⟨s0, s1⟩, HC⟩ := HR.out w2 hb2; clear HR hget)
  clear k1 c1
  go_region_held3 (fun w' => w'.cell? ⟨b, 0, none⟩ = some v0 ∧ w'.cell? ⟨w.heap.size, 0, none⟩ = some (.string k)) (go_keep)
    (first
      | (go_at_call 23; refine Calls.mono HC ?_; rintro e w3 ⟨rb, rfl, ⟨u0, u1⟩, HT⟩)
      | (go_at_call 26; refine Calls.mono HT ?_; rintro e w4 ⟨ty, bx, rfl, ⟨y0, y1⟩, hG⟩))
  all_goals
    (go_wp2
     go_ret
     exact ⟨_, rfl, hG⟩)

set_option maxHeartbeats 4000000 in
set_option maxRecDepth 20000 in
theorem put_new {AV : Avd} (b h : Nat) (t : T) (k v : ByteArray) (w : World) (ht : Tr w b h t) (hf : (getL k (toL h t)).isSome = false) (hl : (toL h t).length < 1000000000) :
    Calls Try.prog 13 #[.pointer (some ⟨b, 0, none⟩), .string k, .string v] w fun e w' => ∃ b', e = .returned (.pointer (some ⟨b', 0, none⟩)) ∧ Got w w' b' (putL k v (toL h t)) := by
  have hlen : (putL k v (toL h t)).length = (toL h t).length + 1 := by
    have := putL_len k v (toL h t)
    rw [hf] at this
    simpa using this
  obtain ⟨W, hW⟩ : ∃ W, W = (w.alloc (.cells #[.string k] 9)).alloc (.cells #[.string v] 9) := ⟨_, rfl⟩
  have hB1 : Below w.heap.size w (w.alloc (.cells #[.string k] 9)) := (Below.refl _ _).alloc (Nat.le_refl _) _
  have hB2 : Below (w.alloc (.cells #[.string k] 9)).heap.size (w.alloc (.cells #[.string k] 9)) W := by rw [hW]; exact (Below.refl _ _).alloc (Nat.le_refl _) _
  have hB : Below w.heap.size w W := hB1.trans (hB2.mono hB1.size)
  have hs1 : (w.alloc (.cells #[.string k] 9)).heap.size = w.heap.size + 1 := by simp
  have hx1 : Bx W w.heap.size k := Bx.below ⟨by rw [hs1]; omega, cell_blk (heap_alloc_new w _) 0⟩ hB2
  have hx2 : Bx W (w.heap.size + 1) v := by
    rw [← hs1]
    exact ⟨by rw [hW]; simp, by rw [hW]; exact cell_blk (heap_alloc_new _ _) 0⟩
  have htW := ht.below hB
  have hget := get_any b h t k W htW
  obtain ⟨v0, g1, g2, g3⟩ := htW
  rw [hf] at hget
  have k1 : W.cell? ⟨b, 1, none⟩ = some (.int .i64 ((toL h t).length : Int)) := cell_blk g1 1
  have hbl : b < W.heap.size := (Array.getElem?_eq_some_iff.1 g1).1
  have HR : Hid (∀ w2, Below W.heap.size W w2 → (w2.drew.cell? ⟨b, 0, none⟩ = some v0 ∧ w2.drew.cell? ⟨w.heap.size, 0, none⟩ = some (.string k)) ∧ Calls Try.prog 23 #[v0, .string k, (.func (.func 27) #[] #[.pointer (some ⟨w.heap.size, 0, none⟩), .pointer (some ⟨w.heap.size + 1, 0, none⟩)])] w2.drew (fun e w3 => ∃ rb, e = .returned (.pointer (some ⟨rb, 0, none⟩)) ∧ (w3.cell? ⟨b, 0, none⟩ = some v0 ∧ w3.cell? ⟨w.heap.size, 0, none⟩ = some (.string k)) ∧
      Calls Try.prog 26 #[.pointer (some ⟨rb, 0, none⟩)] w3 (fun e w4 => ∃ ty bx, e = .returned (.iface ty (.pointer (some ⟨bx, 0, none⟩))) ∧ (w4.cell? ⟨b, 0, none⟩ = some v0 ∧ w4.cell? ⟨w.heap.size, 0, none⟩ = some (.string k)) ∧ Got w (w4.alloc (.cells #[.iface ty (.pointer (some ⟨bx, 0, none⟩)), .int .i64 (((toL h t).length : Int) + 1)] 63)) w4.heap.size (putL k v (toL h t))))) := (by
    intro w2 hb2
    have hS : ∀ q, Below W.heap.size W q → q.cell? ⟨b, 0, none⟩ = some v0 ∧ q.cell? ⟨w.heap.size, 0, none⟩ = some (.string k) := fun q hq => ⟨(hq.cell (p := ⟨b, 0, none⟩) hbl).trans (cell_blk g1 0), (hx1.below hq).cell⟩
    have hb2 : Below W.heap.size W w2.drew := hb2.drew
    refine ⟨hS _ hb2, ?_⟩
    refine Calls.mono (changeP k v w.heap.size (w.heap.size + 1) h t v0 none none w2.drew (g2.below hb2) g3.val (inB_none k) g3.max g3.min (hx1.below hb2) (hx2.below hb2)) ?_
    rintro e w3 ⟨rb, rfl, hr3, hb3⟩
    have hb3 : Below W.heap.size W w3 := hb2.trans (hb3.mono hb2.size)
    refine ⟨rb, rfl, hS _ hb3, ?_⟩
    have hc := chg_val (edit_put k v) g3.val (inB_none k) g3.max g3.min
    refine Calls.mono (top_any rb h _ _ none none w3 hr3 hc.row) ?_
    rintro e w4 ⟨v', rfl, hn4, hb4⟩
    have hb4 : Below W.heap.size W w4 := hb3.trans (hb4.mono hb3.size)
    obtain ⟨ty, bx, rfl⟩ := hn4.ptr
    exact ⟨ty, bx, rfl, hS _ hb4, got_top (edit_put k v) g3 hn4 (by rw [hlen]; omega) (hB.trans (hb4.mono hB.size))⟩)
  have hmf : ∀ (fn : Fn) (first cap : Array Value) (w : World), (Instr.makeFunc fn first cap).run Try.prog w = .ok (.func fn first cap) w := fun _ _ _ _ => rfl
  obtain ⟨PL, hPL⟩ : ∃ PL, PL = putL k v (toL h t) := ⟨_, rfl⟩
  rw [← hPL] at HR ⊢
  obtain ⟨n, hn⟩ : ∃ n, n = (toL h t).length := ⟨_, rfl⟩
  rw [← hn] at HR k1 hl
  have hli : (n : Int) < 1000000000 := by omega
  have hw1 : IntKind.i64.wrap ((n : Int) + 1) = (n : Int) + 1 := by rw [IntKind.wrap_i64]; omega
  have c1 := hx1.cell
  clear hx1 hx2 hB1 hB2 hB hs1 g1 g2 g3 hbl hlen hf hn hPL ht hl
  subst hW
  go_enter Try.func13, Try.ntmps13
  go_wp2_with (go_at_call 10; refine Calls.mono hget ?_; rintro e w2 ⟨rfl, hb2⟩; obtain ⟨⟨s0, s1⟩, HC⟩ := HR.out w2 hb2; clear HR hget)
  clear k1 c1
  go_region_held3 (fun w' => w'.cell? ⟨b, 0, none⟩ = some v0 ∧ w'.cell? ⟨w.heap.size, 0, none⟩ = some (.string k)) (go_keep)
    (first
      | (go_at_call 23; refine Calls.mono HC ?_; rintro e w3 ⟨rb, rfl, ⟨u0, u1⟩, HT⟩)
      | (go_at_call 26; refine Calls.mono HT ?_; rintro e w4 ⟨ty, bx, rfl, ⟨y0, y1⟩, hG⟩))
  all_goals
    (go_wp2
     go_ret
     exact ⟨_, rfl, hG⟩)
end Go.Proofs.Ytpophalhmjchkaa
