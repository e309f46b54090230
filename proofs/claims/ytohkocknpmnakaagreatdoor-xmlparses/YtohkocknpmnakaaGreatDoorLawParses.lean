/-
  The law XmlParses.
-/
import Derived.Test.YtohkocknpmnakaaGreatDoorSam
namespace Go.Proofs.YtohkocknpmnakaaGreatDoor
open Go.RowKit

theorem kids_sml {k : Nat} (he : ∀ l t r, elemF une k l = some (t, r) → l.length ≤ 65536 → Sml k t.ks) : ∀ (f : Nat) (l : List UInt8) (ks : List Nod) (r : List UInt8), kidsF (elemF une k) f l = some (ks, r) → l.length ≤ 65536 → ∀ t ∈ ks, Sml k t.ks
  | 0, _, _, _, h, _ => by cases h
  | f + 1, l, ks, r, h, hl => by
    simp only [kidsF] at h
    have hs := skp_le l
    split at h
    · simp only [Option.some.injEq, Prod.mk.injEq] at h
      obtain ⟨rfl, -⟩ := h
      intro t ht
      cases ht
    · simp only [Option.bind_eq_some_iff, Option.map_eq_some_iff, Prod.mk.injEq] at h
      obtain ⟨⟨t1, r1⟩, h1, ⟨ks2, r2⟩, h2, rfl, -⟩ := h
      have hr := elem_len une k _ _ _ h1
      intro t ht
      rcases List.mem_cons.1 ht with rfl | ht
      · exact he _ _ _ h1 (by omega)
      · exact kids_sml he f r1 ks2 r2 h2 (by omega) t ht
theorem elem_sml : ∀ (k : Nat) (l : List UInt8) (t : Nod) (r : List UInt8), elemF une k l = some (t, r) → l.length ≤ 65536 → Sml k t.ks
  | 0, _, _, _, h, _ => by cases h
  | k + 1, l, t, r, h, hl => by
    simp only [elemF, Option.bind_eq_some_iff] at h
    obtain ⟨l1, h1, h2⟩ := h
    have e1 := (eat_len h1).1
    split at h2
    · cases h2
    · simp only [Option.bind_eq_some_iff] at h2
      obtain ⟨q, h3, h4⟩ := h2
      have e3 := ats_len h3
      simp only [List.length_drop, List.length_cons, List.length_nil] at e1 e3
      rw [rest_eq] at h4
      split at h4
      · simp only [Option.some.injEq, Prod.mk.injEq] at h4
        obtain ⟨rfl, -⟩ := h4
        exact ⟨Nat.zero_le _, fun t ht => by cases ht⟩
      · simp only [Option.bind_eq_some_iff] at h4
        obtain ⟨r1, h5, h6⟩ := h4
        have e5 := (eat_len h5).1
        unfold conN at h6
        simp only [Option.bind_eq_some_iff, Option.map_eq_some_iff, Prod.mk.injEq] at h6
        obtain ⟨⟨x, ks, r2⟩, h7, r3, -, rfl, -⟩ := h6
        simp only [List.length_cons, List.length_nil] at e5
        have hr1 : r1.length ≤ 65536 := by omega
        show ks.length ≤ 65536 ∧ ∀ t ∈ ks, Sml k t.ks
        unfold contF at h7
        split at h7
        · cases h7
        · split at h7
          · simp only [Option.map_eq_some_iff, Prod.mk.injEq] at h7
            obtain ⟨_, _, _, rfl, _⟩ := h7
            exact ⟨Nat.zero_le _, fun t ht => by cases ht⟩
          · simp only [Option.map_eq_some_iff, Prod.mk.injEq] at h7
            obtain ⟨⟨ks', r'⟩, h8, -, rfl, -⟩ := h7
            have hkl : ks'.length + r'.length ≤ r1.length := (kids_len (elem_len une k) h8).2
            exact ⟨Nat.le_trans (Nat.le_trans (Nat.le_add_right _ _) hkl) hr1, kids_sml (elem_sml k) _ _ _ _ h8 hr1⟩
/-- What is told of a text. -/
def resL (l : List UInt8) : Nod × Int := if 65536 < l.length then (.nd [] [] [], 2) else match prsL l with | none => (.nd [] [] [], 130) | some t => (t, 0)
theorem res_sml (l : List UInt8) : Sml 16 (resL l).1.ks := by
  unfold resL
  split
  · exact ⟨Nat.zero_le _, fun t ht => by cases ht⟩
  · split
    · exact ⟨Nat.zero_le _, fun t ht => by cases ht⟩
    · next t h =>
      unfold prsL at h
      split at h
      · unfold docF at h
        simp only [Option.bind_eq_some_iff] at h
        obtain ⟨l1, h1, ⟨t', r'⟩, h2, h3⟩ := h
        have hd := decl_len h1
        have hs := skp_le l1
        split at h3
        · cases h3
          exact elem_sml 16 _ _ _ h2 (by omega)
        · cases h3
      · cases h
theorem pa_res {l : List UInt8} {W w' : World} {e : Ending} (h : PaR l W e w') : ∃ a c, e = .returned (.tuple #[ndV (resL l).1 a c, .int .i64 (resL l).2]) ∧ Kd (fun b => W.heap.size ≤ b) 16 w' a (resL l).1.ks ∧ Below W.heap.size W w' := by
  obtain ⟨hb, ⟨hl, rfl⟩ | ⟨hl, hp, rfl⟩ | ⟨hl, t, a, c, hp, rfl, hk⟩⟩ := h
  · have e : resL l = (.nd [] [] [], 2) := if_pos hl
    rw [e]
    exact ⟨none, 0, rfl, Kd.nil _ _ _ _, hb⟩
  · have e : resL l = (.nd [] [] [], 130) := by unfold resL; rw [if_neg (by omega), hp]
    rw [e]
    exact ⟨none, 0, rfl, Kd.nil _ _ _ _, hb⟩
  · have e : resL l = (t, 0) := by unfold resL; rw [if_neg (by omega), hp]
    rw [e]
    exact ⟨a, c, rfl, hk, hb⟩

set_option maxRecDepth 20000 in
set_option maxHeartbeats 3200000 in
theorem xmlParses_walk (l : List UInt8) (w : World) (hs : l.length ≤ maxLen) (hm : Mx w) (he : Er w) :
    Calls Tryz.prog 3 #[.string ⟨l.toArray⟩] w fun e w' => e = .returned (.bool true) ∧ Below w.heap.size w w' := by
  have K1 := (show Hid (Calls Tryz.prog 9 #[.string ⟨l.toArray⟩] w fun e w' => ∃ a c, e = .returned (.tuple #[ndV (resL l).1 a c, .int .i64 (resL l).2]) ∧ Kd (fun b => w.heap.size ≤ b) 16 w' a (resL l).1.ks ∧ Below w.heap.size w w') from (parse_any l w hs hm he).mono fun _ _ h => pa_res h)
  have K2 := (show Hid (∀ W, Calls Tryz.prog 10 #[.string ⟨l.toArray⟩] W fun e w' => ∃ a c, e = .returned (.tuple #[ndV (resL l).1 a c, .int .i64 (resL l).2]) ∧ Kd (fun b => W.heap.size ≤ b) 16 w' a (resL l).1.ks ∧ Below W.heap.size W w') from fun W => (parse_ref l W hs).mono fun _ _ h => pa_res h)
  have hsm := res_sml l
  have K3 := (show Hid (∀ a c W, Inm 16 W a (resL l).1.ks → Calls Tryz.prog 12 #[ndV (resL l).1 a c] W fun e w' => ∃ a' c', e = .returned (ndV (resL l).1 a' c') ∧ Kd (fun b => W.heap.size ≤ b) 16 w' a' (resL l).1.ks ∧ Below W.heap.size W w') from fun a c W h => toq_all 16 (resL l).1 a c W h hsm)
  have K4 := (show Hid (∀ a b c d W, Inm 16 W a (resL l).1.ks → Inm 16 W b (resL l).1.ks → Calls Tryz.prog 11 #[ndV (resL l).1 a c, ndV (resL l).1 b d] W fun e w' => e = .returned (.bool true) ∧ Below W.heap.size W w') from fun a b c d W h1 h2 => smq_all 16 (resL l).1 a b c d W h1 h2 hsm)
  have K5 := (show Hid (∀ W, Below w.heap.size w W → Calls Tryz.prog 13 #[] W fun e w' => e = .returned (.bool true) ∧ Below W.heap.size W w') from fun W hb => awake_any W (hm.md (Md.ofBelow (F := fun _ => False) hb) (fun h => h)) (he.md (Md.ofBelow (F := fun _ => False) hb) (fun h => h)))
  clear hsm hm he hs
  generalize resL l = tv at *
  obtain ⟨t, v⟩ := tv
  generalize (⟨l.toArray⟩ : ByteArray) = s at *
  unfold ndV at K1 K2 K3 K4
  dsimp only at K1 K2 K3 K4
  go_enter Tryz.func3, Tryz.ntmps3
  go_wp2_with fail
  refine K1.out.mono ?_
  rintro e w1 ⟨a, c, rfl, hk1, hb1⟩
  obtain ⟨w2, hw2⟩ : ∃ w2, w2 = w1.alloc (.cells #[.string ⟨t.nm.toArray⟩, .string ⟨t.tx.toArray⟩, .slice a t.ks.length c] 24) := ⟨_, rfl⟩
  obtain ⟨p, hp⟩ : ∃ p, p = w1.heap.size := ⟨_, rfl⟩
  have H2 : Hid (Below w.heap.size w w2 ∧ Inm 16 w2 a t.ks ∧ w2.heap[p]? = some (.cells #[.string ⟨t.nm.toArray⟩, .string ⟨t.tx.toArray⟩, .slice a t.ks.length c] 24 (0, 0))) := by
    rw [hw2, hp]
    have hb : Below w1.heap.size w1 (w1.alloc (.cells #[.string ⟨t.nm.toArray⟩, .string ⟨t.tx.toArray⟩, .slice a t.ks.length c] 24)) := (Below.refl _ _).alloc (Nat.le_refl _) _
    exact ⟨hb1.trans (hb.mono hb1.size), Inm.below (hk1.mono (fun _ _ _ => trivial)) hb, heap_alloc_new _ _⟩
  clear hk1 hb1 K1
  go_wp2_with fail
  rw [← hw2, ← hp]
  clear hw2 hp
  refine (K2.out _).mono ?_
  rintro e w3 ⟨a', c', rfl, hk3, hb3⟩
  obtain ⟨w4, hw4⟩ : ∃ w4, w4 = w3.alloc (.cells #[.string ⟨t.nm.toArray⟩, .string ⟨t.tx.toArray⟩, .slice a' t.ks.length c'] 30) := ⟨_, rfl⟩
  obtain ⟨q, hq⟩ : ∃ q, q = w3.heap.size := ⟨_, rfl⟩
  have H4 : Hid (Below w.heap.size w w4 ∧ Inm 16 w4 a t.ks ∧ Inm 16 w4 a' t.ks ∧ w4.heap[p]? = some (.cells #[.string ⟨t.nm.toArray⟩, .string ⟨t.tx.toArray⟩, .slice a t.ks.length c] 24 (0, 0)) ∧ w4.heap[q]? = some (.cells #[.string ⟨t.nm.toArray⟩, .string ⟨t.tx.toArray⟩, .slice a' t.ks.length c'] 30 (0, 0))) := by
    rw [hw4, hq]
    have hb : Below w3.heap.size w3 (w3.alloc (.cells #[.string ⟨t.nm.toArray⟩, .string ⟨t.tx.toArray⟩, .slice a' t.ks.length c'] 30)) := (Below.refl _ _).alloc (Nat.le_refl _) _
    have hb24 := hb3.trans (hb.mono hb3.size)
    exact ⟨H2.out.1.trans (hb24.mono H2.out.1.size), H2.out.2.1.below hb24, Inm.below (hk3.mono (fun _ _ _ => trivial)) hb, (hb24.block _ (blk_lt H2.out.2.2)).trans H2.out.2.2, heap_alloc_new _ _⟩
  have HC := (show Hid (∀ w', Below w4.heap.size w4 w' → (w'.cell? ⟨p, 0, none⟩ = some (.string ⟨t.nm.toArray⟩) ∧ w'.cell? ⟨p, 1, none⟩ = some (.string ⟨t.tx.toArray⟩) ∧ w'.cell? ⟨p, 2, none⟩ = some (.slice a t.ks.length c) ∧ w'.cell? ⟨q, 0, none⟩ = some (.string ⟨t.nm.toArray⟩) ∧ w'.cell? ⟨q, 1, none⟩ = some (.string ⟨t.tx.toArray⟩) ∧ w'.cell? ⟨q, 2, none⟩ = some (.slice a' t.ks.length c'))) from fun w' hb => by
    have h1 := (hb.block _ (blk_lt H4.out.2.2.2.1)).trans H4.out.2.2.2.1
    have h2 := (hb.block _ (blk_lt H4.out.2.2.2.2)).trans H4.out.2.2.2.2
    exact ⟨cell_blk h1 0, cell_blk h1 1, cell_blk h1 2, cell_blk h2 0, cell_blk h2 1, cell_blk h2 2⟩)
  have hbd : Below w4.heap.size w4 w4.drew := (Below.refl _ _).drew
  obtain ⟨x0, x1, x2, y0, y1, y2⟩ := HC.out w4 (Below.refl _ _)
  have hIa := H4.out.2.1.below hbd
  clear hk3 hb3 K2
  go_wp2_with fail
  rw [← hw4, ← hq]
  clear hw4 hq
  generalize hN : (⟨t.nm.toArray⟩ : ByteArray) = nm at *
  generalize hX : (⟨t.tx.toArray⟩ : ByteArray) = tx at *
  go_region_held3 (fun w' => w'.cell? ⟨p, 0, none⟩ = some (.string nm) ∧ w'.cell? ⟨p, 1, none⟩ = some (.string tx) ∧ w'.cell? ⟨p, 2, none⟩ = some (.slice a t.ks.length c) ∧ w'.cell? ⟨q, 0, none⟩ = some (.string nm) ∧ w'.cell? ⟨q, 1, none⟩ = some (.string tx) ∧ w'.cell? ⟨q, 2, none⟩ = some (.slice a' t.ks.length c')) (first | (exact HC.out _ hb7) | (exact HC.out _ hb6) | (exact HC.out _ hb5) | (go_keep))
    (first
      | (go_at_call 12; (with_reducible refine Calls.mono (K3.out a c _ ?_) ?_); exact hIa; rintro e w5 ⟨a2, c2, rfl, hk5, hb5'⟩; have hb5 : Below w4.heap.size w4 w5 := hbd.trans hb5'; have hIb := H4.out.2.2.1.below hb5; have hIc : Inm 16 w5 a2 t.ks := hk5.mono (fun _ _ _ => trivial))
      | (go_at_call 11; (with_reducible refine Calls.mono (K4.out a2 a' c2 c' _ hIc hIb) ?_); rintro e w6 ⟨rfl, hb6'⟩; have hb6 : Below w4.heap.size w4 w6 := hb5.trans (hb6'.mono hb5.size); have hlo6 : Below w.heap.size w w6 := H4.out.1.trans (hb6.mono H4.out.1.size))
      | (go_at_call 13; (with_reducible refine Calls.mono (K5.out _ hlo6) ?_); rintro e w7 ⟨rfl, hb7'⟩; have hb7 : Below w4.heap.size w4 w7 := hb6.trans (hb7'.mono hb6.size)))
  have H7 : Hid (Below w.heap.size w w7) := H4.out.1.trans (hb7.mono H4.out.1.size)
  go_wp2
  go_ret
  exact ⟨rfl, H7.out⟩
end Go.Proofs.YtohkocknpmnakaaGreatDoor
