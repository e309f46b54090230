/-
  Two inner nodes side by side made one; join of any two nodes.
-/
import Derived.Test.YtpophalhmjchkaaJoin
namespace Go.Proofs.Ytpophalhmjchkaa
open Go.RowKit

set_option maxHeartbeats 4000000 in
set_option maxRecDepth 20000 in
theorem join_inner {AV : Avd} (b1 b2 h : Nat) (bs1 bs2 : List ByteArray) (cs1 cs2 : List T) (k : ByteArray) (w : World) (h1 : Rw w h b1 (bs1, cs1)) (h2 : Rw w h b2 (bs2, cs2)) (hl1 : cs1.length = bs1.length + 1) (hl2 : cs2.length = bs2.length + 1) (hn : cs1.length + cs2.length ≤ 100) :
    Calls Try.prog 52 #[.iface 66 (.pointer (some ⟨b1, 0, none⟩)), .string k, .iface 66 (.pointer (some ⟨b2, 0, none⟩))] w fun e w' => ∃ b', e = .returned (.iface 66 (.pointer (some ⟨b', 0, none⟩))) ∧ Rw w' h b' (bs1 ++ [k] ++ bs2, cs1 ++ cs2) ∧ Below w.heap.size w w' := by
  obtain ⟨a1, c1, a2, c2, vs, q1, q2, q3, q4⟩ := h1
  have q2 : Sl w 1 a1 bs1.length c1 (scs bs1) := q2
  have q3 : Sl w 1 a2 cs1.length c2 vs := q3
  have q4 : All2 (Nd w h) vs cs1 := q4
  obtain ⟨d1, f1, d2, f2, us, p1, p2, p3, p4⟩ := h2
  have p2 : Sl w 1 d1 bs2.length f1 (scs bs2) := p2
  have p3 : Sl w 1 d2 cs2.length f2 us := p3
  have p4 : All2 (Nd w h) us cs2 := p4
  have k0 : w.cell? ⟨b1, 0, none⟩ = some (.slice a1 bs1.length c1) := cell_blk q1 0
  have k1 : w.cell? ⟨b1, 1, none⟩ = some (.slice a2 cs1.length c2) := cell_blk q1 1
  have k2 : w.cell? ⟨b2, 0, none⟩ = some (.slice d1 bs2.length f1) := cell_blk p1 0
  have k3 : w.cell? ⟨b2, 1, none⟩ = some (.slice d2 cs2.length f2) := cell_blk p1 1
  have hbl : b1 < w.heap.size := (Array.getElem?_eq_some_iff.1 q1).1
  have hrl : b2 < w.heap.size := (Array.getElem?_eq_some_iff.1 p1).1
  have HK : Hid (∀ w5, Below w.heap.size w w5 → w5.cell? ⟨b1, 0, none⟩ = some (.slice a1 bs1.length c1) ∧ w5.cell? ⟨b1, 1, none⟩ = some (.slice a2 cs1.length c2) ∧ w5.cell? ⟨b2, 0, none⟩ = some (.slice d1 bs2.length f1) ∧ w5.cell? ⟨b2, 1, none⟩ = some (.slice d2 cs2.length f2)) := fun w5 hb => ⟨(hb.cell (p := ⟨b1, 0, none⟩) hbl).trans k0, (hb.cell (p := ⟨b1, 1, none⟩) hbl).trans k1, (hb.cell (p := ⟨b2, 0, none⟩) hrl).trans k2, (hb.cell (p := ⟨b2, 1, none⟩) hrl).trans k3⟩
  obtain ⟨z1, hz1⟩ : ∃ z1, z1 = bs1.length + 1 + bs2.length := ⟨_, rfl⟩
  obtain ⟨z2, hz2⟩ : ∃ z2, z2 = cs1.length + cs2.length := ⟨_, rfl⟩
  have hw1 : (bs1 ++ [k] ++ bs2).length = z1 := by simp; omega
  have hw2 : (cs1 ++ cs2).length = z2 := by simp; omega
  have HO : Hid (∀ Z, Below w.heap.size w Z →
      (Calls Try.prog 50 #[.slice (some ⟨Z.heap.size + 1, 0, none⟩) 3 3] ((Z.alloc (.cells #[.string k] 9)).alloc (.cells #[.slice a1 bs1.length c1, .slice (some ⟨Z.heap.size, 0, none⟩) 1 1, .slice d1 bs2.length f1] 23)).drew fun e w1 => ∃ x1 y1, e = .returned (.slice x1 z1 y1) ∧ Below Z.heap.size Z w1 ∧ Calls Try.prog 51 #[.slice (some ⟨w1.heap.size, 0, none⟩) 2 2] (w1.alloc (.cells #[.slice a2 cs1.length c2, .slice d2 cs2.length f2] 80)) (Cat2 Z h z1 z2 (bs1 ++ [k] ++ bs2, cs1 ++ cs2) x1 y1)) ∧
      (Calls Try.prog 50 #[.slice (some ⟨Z.heap.size + 1, 0, none⟩) 3 3] (((Z.alloc (.cells #[.string k] 9)).alloc (.cells #[.slice a1 bs1.length c1, .slice (some ⟨Z.heap.size, 0, none⟩) 1 1, .slice d1 bs2.length f1] 23)).alloc (.cells #[.slice a2 cs1.length c2, .slice d2 cs2.length f2] 80)).drew fun e w1 => ∃ x1 y1, e = .returned (.slice x1 z1 y1) ∧ Below Z.heap.size Z w1 ∧ Calls Try.prog 51 #[.slice (some ⟨Z.heap.size + 1 + 1, 0, none⟩) 2 2] w1 (Cat2 Z h z1 z2 (bs1 ++ [k] ++ bs2, cs1 ++ cs2) x1 y1)) ∧
      (Calls Try.prog 50 #[.slice (some ⟨Z.heap.size + 1 + 1, 0, none⟩) 3 3] (((Z.alloc (.cells #[.string k] 9)).alloc (.cells #[.slice a2 cs1.length c2, .slice d2 cs2.length f2] 80)).alloc (.cells #[.slice a1 bs1.length c1, .slice (some ⟨Z.heap.size, 0, none⟩) 1 1, .slice d1 bs2.length f1] 23)).drew fun e w1 => ∃ x1 y1, e = .returned (.slice x1 z1 y1) ∧ Below Z.heap.size Z w1 ∧ Calls Try.prog 51 #[.slice (some ⟨Z.heap.size + 1, 0, none⟩) 2 2] w1 (Cat2 Z h z1 z2 (bs1 ++ [k] ++ bs2, cs1 ++ cs2) x1 y1)) ∧
      (Calls Try.prog 50 #[.slice (some ⟨Z.heap.size + 1 + 1, 0, none⟩) 3 3] (((Z.alloc (.cells #[.slice a2 cs1.length c2, .slice d2 cs2.length f2] 80)).alloc (.cells #[.string k] 9)).alloc (.cells #[.slice a1 bs1.length c1, .slice (some ⟨Z.heap.size + 1, 0, none⟩) 1 1, .slice d1 bs2.length f1] 23)).drew fun e w1 => ∃ x1 y1, e = .returned (.slice x1 z1 y1) ∧ Below Z.heap.size Z w1 ∧ Calls Try.prog 51 #[.slice (some ⟨Z.heap.size, 0, none⟩) 2 2] w1 (Cat2 Z h z1 z2 (bs1 ++ [k] ++ bs2, cs1 ++ cs2) x1 y1))) := (by
    intro Z hZ
    refine three_allocs (AV := AV) (w := Z) (K := .cells #[.string k] 9) (B := .cells #[.slice a2 cs1.length c2, .slice d2 cs2.length f2] 80) (A := fun t => .cells #[.slice a1 bs1.length c1, .slice (some ⟨t, 0, none⟩) 1 1, .slice d1 bs2.length f1] 23) (z1 := z1) (L := scs (bs1 ++ [k] ++ bs2)) (C2 := fun x1 y1 => Cat2 Z h z1 z2 (bs1 ++ [k] ++ bs2, cs1 ++ cs2) x1 y1) ?_ ?_
    · intro q s t htz hq ht hs
      have hwq := hZ.trans (hq.mono hZ.size)
      refine catS_at (AV := AV) (X := [⟨a1, bs1.length, scs bs1, c1⟩, ⟨some ⟨t, 0, none⟩, 1, scs [k], 1⟩, ⟨d1, bs2.length, scs bs2, f1⟩]) hs ?_ rfl (by simp [catX, scs]) (by simp [totN]; omega) (by omega) (by omega)
      intro x hx
      simp only [List.mem_cons, List.not_mem_nil, or_false] at hx
      rcases hx with rfl | rfl | rfl
      · exact q2.below hwq
      · exact Sl.block (vs := [Value.string k]) ht (by intro u hu; simp at hu; rw [hu]; rfl) (q2.av.below hwq) (q2.av.ne (Nat.le_trans hZ.size htz))
      · exact p2.below hwq
    · intro q s x1 y1 hq hs hx1
      have hwq := hZ.trans (hq.mono hZ.size)
      refine Calls.mono (catN_at (AV := AV) (X := [⟨a2, cs1.length, vs, c2⟩, ⟨d2, cs2.length, us, f2⟩]) (vs := vs ++ us) (N := z2) hs ?_ rfl (by simp [catX]) (by simp [totN]; omega) (by omega) (by omega)) ?_
      · intro x hx
        simp only [List.mem_cons, List.not_mem_nil, or_false] at hx
        rcases hx with rfl | rfl
        · exact q3.below hwq
        · exact p3.below hwq
      · rintro e w2 ⟨x2, y2, rfl, l2, b2⟩
        have b02 := hq.trans (b2.mono hq.size)
        refine ⟨x2, y2, rfl, b02, ?_, b02.alloc b02.size _⟩
        have := Rw.make (h := h) (bs := bs1 ++ [k] ++ bs2) (cs := cs1 ++ cs2) (w := w2) (by rw [hw1]; exact hx1.below b2) (by rw [hw2]; exact l2) ((q4.app p4).mono (fun _ _ hn => hn.below (hwq.trans (b2.mono hwq.size))))
        rw [hw1, hw2] at this
        exact this)
  have ht := ta_il (.pointer (some ⟨b1, 0, none⟩)) w
  have ht1 := ta_ii (.pointer (some ⟨b1, 0, none⟩))
  have ht2 := ta_ii (.pointer (some ⟨b2, 0, none⟩))
  clear q1 q2 q3 q4 p1 p2 p3 p4 hbl hrl hw1 hw2 hz1 hz2 hl1 hl2 k0 k1 k2 k3
  go_enter Try.func52, Try.ntmps52
  go_wp2
  go_quiet (fail)
  obtain ⟨Z, hZ⟩ : ∃ Z, Z = w.drewN nq := ⟨_, rfl⟩
  have hbZ : Below w.heap.size w Z := by rw [hZ]; exact below_drewN (Below.refl _ _) _
  rw [← hZ]
  obtain ⟨o1, o2, o3, o4⟩ := HO.out Z hbZ
  obtain ⟨k0, k1, k2, k3⟩ := HK.out Z hbZ
  obtain ⟨g0, g1, g2, g3⟩ := HK.out Z.drew hbZ.drew
  have HKZ : Hid (∀ w5, Below Z.heap.size Z w5 → w5.cell? ⟨b1, 0, none⟩ = some (.slice a1 bs1.length c1) ∧ w5.cell? ⟨b1, 1, none⟩ = some (.slice a2 cs1.length c2) ∧ w5.cell? ⟨b2, 0, none⟩ = some (.slice d1 bs2.length f1) ∧ w5.cell? ⟨b2, 1, none⟩ = some (.slice d2 cs2.length f2)) := fun w5 hb => HK.out w5 (hbZ.trans (hb.mono hbZ.size))
  have HBZ : Hid (Below w.heap.size w Z) := hbZ
  have HB3 : Hid (∀ o1 o2 o3, Below Z.heap.size Z (((Z.alloc o1).alloc o2).alloc o3)) := (by
    intro o1 o2 o3
    have b1 : Below Z.heap.size Z (Z.alloc o1) := (Below.refl _ _).alloc (Nat.le_refl _) _
    have b2 := b1.alloc b1.size o2
    exact b2.alloc b2.size o3)
  clear hZ hbZ HO HK ht ht1 ht2
  go_wp2
  go_region_held3 (fun w' => w'.cell? ⟨b1, 0, none⟩ = some (.slice a1 bs1.length c1) ∧ w'.cell? ⟨b1, 1, none⟩ = some (.slice a2 cs1.length c2) ∧ w'.cell? ⟨b2, 0, none⟩ = some (.slice d1 bs2.length f1) ∧ w'.cell? ⟨b2, 1, none⟩ = some (.slice d2 cs2.length f2)) (first | exact HKZ.out _ (HB3.out _ _ _).drew | exact HKZ.out _ (HB3.out _ _ _) | go_keep)
    (first
      | (go_at_call 50; (with_reducible refine Calls.mono o1 ?_); rintro e w1 ⟨x1, y1, rfl, hb1, hc2⟩; have u0 := (HKZ.out w1 hb1).1; have u1 := (HKZ.out w1 hb1).2.1; have u2 := (HKZ.out w1 hb1).2.2.1; have u3 := (HKZ.out w1 hb1).2.2.2)
      | (go_at_call 50; (with_reducible refine Calls.mono o2 ?_); rintro e w1 ⟨x1, y1, rfl, hb1, hc2⟩; have u0 := (HKZ.out w1 hb1).1; have u1 := (HKZ.out w1 hb1).2.1; have u2 := (HKZ.out w1 hb1).2.2.1; have u3 := (HKZ.out w1 hb1).2.2.2)
      | (go_at_call 50; (with_reducible refine Calls.mono o3 ?_); rintro e w1 ⟨x1, y1, rfl, hb1, hc2⟩; have u0 := (HKZ.out w1 hb1).1; have u1 := (HKZ.out w1 hb1).2.1; have u2 := (HKZ.out w1 hb1).2.2.1; have u3 := (HKZ.out w1 hb1).2.2.2)
      | (go_at_call 50; (with_reducible refine Calls.mono o4 ?_); rintro e w1 ⟨x1, y1, rfl, hb1, hc2⟩; have u0 := (HKZ.out w1 hb1).1; have u1 := (HKZ.out w1 hb1).2.1; have u2 := (HKZ.out w1 hb1).2.2.1; have u3 := (HKZ.out w1 hb1).2.2.2)
      | (go_at_call 51; (with_reducible refine Calls.mono hc2 ?_); rintro e w2 ⟨x2, y2, rfl, hb2, hrw, hb3⟩; have v0 := (HKZ.out w2 hb2).1; have v1 := (HKZ.out w2 hb2).2.1; have v2 := (HKZ.out w2 hb2).2.2.1; have v3 := (HKZ.out w2 hb2).2.2.2))
  all_goals
    (go_wp2
     go_ret
     exact ⟨_, rfl, hrw, HBZ.out.trans (hb3.mono HBZ.out.size)⟩)

theorem join_any {AV : Avd} (v1 v2 : Value) (h : Nat) (t1 t2 : T) (k : ByteArray) (w : World) (lo mi hi : Option ByteArray) (h1 : Nd w h v1 t1) (h2 : Nd w h v2 t2) (r1 : Val h lo mi t1) (r2 : Val h mi hi t2) (hn : t1.sz + t2.sz ≤ 100) :
    Calls Try.prog 52 #[v1, .string k, v2] w fun e w' => ∃ v', e = .returned v' ∧ Nd w' h v' (joinT t1 k t2) ∧ Below w.heap.size w w' := by
  match h, t1, t2, h1, h2, r1, r2 with
  | 0, .leaf p, .leaf q, h1, h2, _, _ =>
    obtain ⟨b1, rfl, l1⟩ := h1
    obtain ⟨b2, rfl, l2⟩ := h2
    refine Calls.mono (join_leaf b1 b2 p q k w l1 l2 hn) ?_
    rintro e w' ⟨b', rfl, hl, hb⟩
    exact ⟨_, rfl, ⟨b', rfl, hl⟩, hb⟩
  | h + 1, .inner bs1 cs1, .inner bs2 cs2, h1, h2, r1, r2 =>
    obtain ⟨b1, rfl, l1⟩ := h1
    obtain ⟨b2, rfl, l2⟩ := h2
    refine Calls.mono (join_inner b1 b2 h bs1 bs2 cs1 cs2 k w l1 l2 r1.1.len r2.1.len hn) ?_
    rintro e w' ⟨b', rfl, hl, hb⟩
    exact ⟨_, rfl, ⟨b', rfl, hl⟩, hb⟩
  | 0, .inner _ _, _, h1, _, _, _ => exact h1.elim
  | _ + 1, .leaf _, _, h1, _, _, _ => exact h1.elim
  | 0, .leaf _, .inner _ _, _, h2, _, _ => exact h2.elim
  | _ + 1, .inner _ _, .leaf _, _, h2, _, _ => exact h2.elim
end Go.Proofs.Ytpophalhmjchkaa
