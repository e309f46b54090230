/-
  The law FaultNames.
-/
import Derived.Test.YtlaahendcdifgaaDoorAwk
namespace Go.Proofs.YtlaahendcdifgaaDoor
open Go.RowKit

def frL (q r i : ByteArray) : List (ByteArray × ByteArray) := [(codeT, q), (mesT, q), (resT, r), (idT, i)]
theorem Four.lvs {t : TypeId} {w : World} {b : Nat} {q r i : ByteArray} (h : Four t w b q r i) : Lvs w b (frL q r i) := by
  intro j hj
  have hc : ∀ k, w.cell? ⟨b, k, none⟩ = _ := fun k => cell_blk h k
  match j, hj with
  | 0, _ => exact ⟨hc 0, hc 1, hc 2⟩
  | 1, _ => exact ⟨hc 3, hc 4, hc 5⟩
  | 2, _ => exact ⟨hc 6, hc 7, hc 8⟩
  | 3, _ => exact ⟨hc 9, hc 10, hc 11⟩
  | j + 4, hj => exact absurd hj (by simp [frL])

set_option maxRecDepth 20000 in
set_option maxHeartbeats 3200000 in
theorem faultNames_walk (n : Int) (name r i : ByteArray) (w : World) (hg : Et w) :
    Calls Tryd.prog 3 #[.int .i64 n, .string name, .string r, .string i] w fun e w' => e = .returned (.bool true) ∧ Below w.heap.size w w' := by
  have K5 := (show Hid (∀ W, Below w.heap.size w W → Calls Tryd.prog 5 #[.string name] W fun r w' => r = .returned (.tuple #[.int .i64 (ofV name).1, .bool (ofV name).2]) ∧ Below W.heap.size W w') from fun W hW => of_any name W (hg.below hW))
  have K6 := (show Hid (∀ W, Calls Tryd.prog 6 #[.string name] W fun r w' => r = .returned (.tuple #[.int .i64 (ofV name).1, .bool (ofV name).2]) ∧ Below W.heap.size W w') from rof_any name)
  have K7 := (show Hid (∀ W, Below w.heap.size w W → Calls Tryd.prog 7 #[.int .i64 n] W fun r w' => r = .returned (.string (nameV n)) ∧ Below W.heap.size W w') from fun W hW => name_any n W (hg.below hW))
  have K8 := (show Hid (∀ W, Calls Tryd.prog 8 #[.int .i64 n] W fun r w' => r = .returned (.string (nameV n)) ∧ Below W.heap.size W w') from rname_any n)
  have K9 := (show Hid (∀ W, Below w.heap.size w W → Calls Tryd.prog 9 #[.int .i64 n] W fun r w' => r = .returned (.int .i64 (statV n)) ∧ Below W.heap.size W w') from fun W hW => stat_any n W (hg.below hW))
  have K10 := (show Hid (∀ W, Calls Tryd.prog 10 #[.int .i64 n] W fun r w' => r = .returned (.int .i64 (statV n)) ∧ Below W.heap.size W w') from rstat_any n)
  have K11 := (show Hid (∀ W, Below w.heap.size w W → Calls Tryd.prog 11 #[.int .i64 n] W fun r w' => r = .returned (.int .i64 (devV n)) ∧ Below W.heap.size W w') from fun W hW => dev_any n W (hg.below hW))
  have K12 := (show Hid (∀ W, Calls Tryd.prog 12 #[.int .i64 n] W fun r w' => r = .returned (.int .i64 (devV n)) ∧ Below W.heap.size W w') from rdev_any n)
  have K15 := (show Hid (∀ W, Below w.heap.size w W → Calls Tryd.prog 15 #[.int .i64 n, .string r, .string i] W fun o w' => ∃ b, W.heap.size ≤ b ∧ o = .returned (.agg #[.string errT, .string ⟨#[]⟩, .slice (some ⟨b, 0, none⟩) 4 4]) ∧ Four 39 w' b (nameV n) r i ∧ Below W.heap.size W w') from fun W hW => node_any n r i W (hg.below hW))
  have K16 := (show Hid (∀ W, Calls Tryd.prog 16 #[.int .i64 n, .string r, .string i] W fun o w' => ∃ b, W.heap.size ≤ b ∧ o = .returned (.agg #[.string errT, .string ⟨#[]⟩, .slice (some ⟨b, 0, none⟩) 4 4]) ∧ Four 35 w' b (nameV n) r i ∧ Below W.heap.size W w') from rnode_any n r i)
  have K17 := (show Hid (∀ W, Below w.heap.size w W → Calls Tryd.prog 17 #[] W fun e w' => e = .returned (.bool true) ∧ Below W.heap.size W w') from fun W hW => awake_any W (hg.below hW))
  have K14 := (show Hid (∀ q W b, Four 39 W b q r i → Calls Tryd.prog 14 #[.agg #[.string errT, .string ⟨#[]⟩, .slice (some ⟨b, 0, none⟩) 4 4]] W fun o w' => ∃ g c, o = .returned (.agg #[.string errT, .string ⟨#[]⟩, .slice (some ⟨g, 0, none⟩) 4 c]) ∧ g < w'.heap.size ∧ Lvs w' g (frL q r i) ∧ Below W.heap.size W w') from fun q W b hf => by
    refine (to_list errT ⟨#[]⟩ (frL q r i) b 4 W (heap_lt hf) (by simp [frL]) hf.lvs).mono ?_
    rintro o w' ⟨v, rfl, ho, hb⟩
    obtain ⟨g, c, rfl, hl, hv⟩ := own_lvs ho (by simp [frL])
    exact ⟨g, c, rfl, hl, hv, hb⟩)
  have K13 := (show Hid (∀ q W g c b, g < W.heap.size → Lvs W g (frL q r i) → Four 35 W b q r i → Calls Tryd.prog 13 #[.agg #[.string errT, .string ⟨#[]⟩, .slice (some ⟨g, 0, none⟩) 4 c], .agg #[.string errT, .string ⟨#[]⟩, .slice (some ⟨b, 0, none⟩) 4 4]] W fun e w' => e = .returned (.bool true) ∧ Below W.heap.size W w') from fun q W g c b hl hv hf => same_list errT ⟨#[]⟩ (frL q r i) g b c 4 W hl (heap_lt hf) (by simp [frL]) hv hf.lvs)
  clear hg
  generalize ofV name = p at *
  generalize nameV n = q at *
  generalize statV n = s at *
  generalize devV n = d at *
  obtain ⟨pa, pb⟩ := p
  unfold errT at *
  go_enter Tryd.func3, Tryd.ntmps3
  go_wp2_with fail
  refine (K5.out _ (Below.refl _ _)).mono ?_
  rintro e w1 ⟨rfl, hb1⟩
  have H1 : Hid (Below w.heap.size w w1) := hb1
  clear hb1
  go_wp2_with fail
  refine (K6.out _).mono ?_
  rintro e w2 ⟨rfl, hb1⟩
  have H2 : Hid (Below w.heap.size w w2) := H1.out.trans (hb1.mono H1.out.size)
  clear hb1
  go_wp2_with fail
  refine (K7.out _ H2.out).mono ?_
  rintro e w3 ⟨rfl, hb1⟩
  have H3 : Hid (Below w.heap.size w w3) := H2.out.trans (hb1.mono H2.out.size)
  clear hb1
  go_wp2_with fail
  refine (K8.out _).mono ?_
  rintro e w4 ⟨rfl, hb1⟩
  have H4 : Hid (Below w.heap.size w w4) := H3.out.trans (hb1.mono H3.out.size)
  clear hb1
  go_wp2_with fail
  refine (K9.out _ H4.out).mono ?_
  rintro e w5 ⟨rfl, hb1⟩
  have H5 : Hid (Below w.heap.size w w5) := H4.out.trans (hb1.mono H4.out.size)
  clear hb1
  go_wp2_with fail
  refine (K10.out _).mono ?_
  rintro e w6 ⟨rfl, hb1⟩
  have H6 : Hid (Below w.heap.size w w6) := H5.out.trans (hb1.mono H5.out.size)
  clear hb1
  go_wp2_with fail
  refine (K11.out _ H6.out).mono ?_
  rintro e w7 ⟨rfl, hb1⟩
  have H7 : Hid (Below w.heap.size w w7) := H6.out.trans (hb1.mono H6.out.size)
  clear hb1
  go_wp2_with fail
  refine (K12.out _).mono ?_
  rintro e w8 ⟨rfl, hb1⟩
  have H8 : Hid (Below w.heap.size w w8) := H7.out.trans (hb1.mono H7.out.size)
  clear hb1
  go_wp2_with fail
  refine (K15.out _ H8.out).mono ?_
  rintro e w9 ⟨b, -, rfl, hf, hb1⟩
  have H9 : Hid (Below w.heap.size w w9) := H8.out.trans (hb1.mono H8.out.size)
  have KT := K14.out q w9 b hf
  clear hb1 hf
  go_wp2_with fail
  refine KT.mono ?_
  rintro e w10 ⟨g, c, rfl, hl, hv, hb1⟩
  have H10 : Hid (Below w.heap.size w w10 ∧ g < w10.heap.size ∧ Lvs w10 g (frL q r i)) := ⟨H9.out.trans (hb1.mono H9.out.size), hl, hv⟩
  clear hb1 hl hv KT
  go_wp2_with fail
  refine (K16.out _).mono ?_
  rintro e w11 ⟨b', -, rfl, hf, hb1⟩
  have H11 : Hid (Below w.heap.size w w11) := H10.out.1.trans (hb1.mono H10.out.1.size)
  have KS := K13.out q w11 g c b' (Nat.lt_of_lt_of_le H10.out.2.1 hb1.size) (H10.out.2.2.below hb1 H10.out.2.1) hf
  clear hb1 hf
  go_wp2_with fail
  refine KS.mono ?_
  rintro e w12 ⟨rfl, hb1⟩
  have H12 : Hid (Below w.heap.size w w12) := H11.out.trans (hb1.mono H11.out.size)
  clear hb1 KS
  go_wp2_with fail
  refine (K17.out _ H12.out).mono ?_
  rintro e w13 ⟨rfl, hb1⟩
  have H13 : Hid (Below w.heap.size w w13) := H12.out.trans (hb1.mono H12.out.size)
  clear hb1
  go_wp2
  go_ret
  exact ⟨rfl, H13.out⟩
end Go.Proofs.YtlaahendcdifgaaDoor
