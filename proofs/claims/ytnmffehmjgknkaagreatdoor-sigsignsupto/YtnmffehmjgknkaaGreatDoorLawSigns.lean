/-
  SigSigns: the law's walk.
-/
import Derived.Test.YtnmffehmjgknkaaGreatDoorAwE
import Derived.Deep.RegionWith
import Derived.Deep.RegionHeld3
namespace Go.Proofs.YtnmffehmjgknkaaGreatDoor
open Go.RowKit

/-- A class of worlds may be turned for a narrower one on the way through a region. -/
theorem wpAnyH_turn {P : Program} {md : Region.Mode} {ops : Array Oper} {Q : Exit → Act → World → Prop} {S0 S1 : World → Prop} (h : ∀ w, S1 w → S0 w) : ∀ (fuel : Nat) (listed : Array Bool) (a : Act) (w : World), wpAnyH P md ops Q S1 fuel listed a w → wpAnyH P md ops Q S0 fuel listed a w
  | 0, _, _, _, h' => h'
  | fuel + 1, _, _, _, h' => ⟨h'.1, fun i hi => wpOp_mono (fun a' w' hh => ⟨h _ hh.1, wpAnyH_turn h fuel _ a' w' hh.2⟩) (h'.2 i hi)⟩
set_option maxRecDepth 20000 in
set_option maxHeartbeats 4000000 in
theorem sigSigns_walk (secret day region : List UInt8) (ka : Option Addr) (key : List UInt8) (kc : Nat) (date scope text : List UInt8) (w : World)
    (h1 : secret.length ≤ 1000000000) (h2 : day.length ≤ 1000000000) (h3 : region.length ≤ 1000000000) (hkn : ka = none → kc = 0) (hkc : key.length ≤ kc) (hkl : key.length ≤ 1000000000) (hkB : Bytes w ka key)
    (h4 : date.length ≤ 1000000000) (h5 : scope.length ≤ 1000000000) (h6 : text.length ≤ 1000000000) (hm : Mx w) :
    Calls Tryz.prog 4 #[.string ⟨secret.toArray⟩, .string ⟨day.toArray⟩, .string ⟨region.toArray⟩, .slice ka key.length kc, .string ⟨date.toArray⟩, .string ⟨scope.toArray⟩, .string ⟨text.toArray⟩] w fun e w' => e = .returned (.bool true) ∧ Below w.heap.size w w' := by
  have HL := (show Hid (secret.length ≤ 1000000000 ∧ day.length ≤ 1000000000 ∧ region.length ≤ 1000000000 ∧ (ka = none → kc = 0) ∧ key.length ≤ kc ∧ key.length ≤ 1000000000 ∧ Bytes w ka key ∧ date.length ≤ 1000000000 ∧ scope.length ≤ 1000000000 ∧ text.length ≤ 1000000000 ∧ Mx w) from ⟨h1, h2, h3, hkn, hkc, hkl, hkB, h4, h5, h6, hm⟩)
  obtain ⟨K, hK⟩ : ∃ K, K = skL secret day region [115, 51] := ⟨_, rfl⟩
  obtain ⟨KS, hKS⟩ : ∃ KS : ByteArray, KS = ⟨K.toArray⟩ := ⟨_, rfl⟩
  have HKS := (show Hid (KS = ⟨K.toArray⟩) from hKS)
  obtain ⟨SG, hSG⟩ : ∃ SG : ByteArray, SG = ⟨(sgL key date scope text).toArray⟩ := ⟨_, rfl⟩
  have KE := (show Hid (∀ W', Below w.heap.size w W' → Calls Tryz.prog 12 #[.string ⟨secret.toArray⟩, .string ⟨day.toArray⟩, .string ⟨region.toArray⟩, .string ⟨#[115, 51]⟩] W' fun e w' => ∃ a c, e = .returned (.slice a K.length c) ∧ Bytes w' a K ∧ Below w.heap.size w w') from fun W' hb => by
    rw [hK]
    exact (skey_any secret day region [115, 51] W' HL.out.1 HL.out.2.1 HL.out.2.2.1 (by decide)).mono fun e w' ⟨v, h1, h2, h3⟩ => by
      obtain ⟨a, c, h4, -, -, h5, -, -⟩ := own_head h2
      exact ⟨a, c, by rw [h1, h4], h5, hb.trans (h3.mono hb.size)⟩)
  have KR := (show Hid (∀ W', Below w.heap.size w W' → Calls Tryz.prog 13 #[.string ⟨secret.toArray⟩, .string ⟨day.toArray⟩, .string ⟨region.toArray⟩, .string ⟨#[115, 51]⟩] W' fun e w' => ∃ a c, e = .returned (.slice a K.length c) ∧ Bytes w' a K ∧ Below w.heap.size w w' ∧ Below W'.heap.size W' w') from fun W' hb => by
    rw [hK]
    exact (rskey_any secret day region [115, 51] W' HL.out.1 HL.out.2.1 HL.out.2.2.1 (by decide)).mono fun e w' ⟨v, h1, h2, h3⟩ => by
      obtain ⟨a, c, h4, -, -, h5, -, -⟩ := own_head h2
      exact ⟨a, c, by rw [h1, h4], h5, hb.trans (h3.mono hb.size), h3⟩)
  have S1 := (show Hid (∀ W', Below w.heap.size w W' → Calls Tryz.prog 14 #[.slice ka key.length kc, .string ⟨date.toArray⟩, .string ⟨scope.toArray⟩, .string ⟨text.toArray⟩] W' fun e w' => e = .returned (.string SG) ∧ Below w.heap.size w w' ∧ Below W'.heap.size W' w') from fun W' hb => by
    rw [hSG]
    exact (sign_any ka key kc date scope text W' HL.out.2.2.2.2.1 HL.out.2.2.2.2.2.1 (HL.out.2.2.2.2.2.2.1.below hb (Nat.le_refl _)) HL.out.2.2.2.2.2.2.2.1 HL.out.2.2.2.2.2.2.2.2.1 HL.out.2.2.2.2.2.2.2.2.2.1).mono fun e w' ⟨h1, h2⟩ => ⟨h1, hb.trans (h2.mono hb.size), h2⟩)
  have S2 := (show Hid (∀ W', Below w.heap.size w W' → Calls Tryz.prog 15 #[.slice ka key.length kc, .string ⟨date.toArray⟩, .string ⟨scope.toArray⟩, .string ⟨text.toArray⟩] W' fun e w' => e = .returned (.string SG) ∧ Below w.heap.size w w' ∧ Below W'.heap.size W' w') from fun W' hb => by
    rw [hSG]
    exact (rsign_any ka key kc date scope text W' HL.out.2.2.2.1 HL.out.2.2.2.2.2.1 (HL.out.2.2.2.2.2.2.1.below hb (Nat.le_refl _)) HL.out.2.2.2.2.2.2.2.1 HL.out.2.2.2.2.2.2.2.2.1 HL.out.2.2.2.2.2.2.2.2.2.1).mono fun e w' ⟨h1, h2⟩ => ⟨h1, hb.trans (h2.mono hb.size), h2⟩)
  have AW := (show Hid (∀ W', Below w.heap.size w W' → Calls Tryz.prog 11 #[] W' fun e w' => e = .returned (.bool true) ∧ Below w.heap.size w w' ∧ Below W'.heap.size W' w') from fun W' hb => (awake_any W' (HL.out.2.2.2.2.2.2.2.2.2.2.below hb (Nat.le_refl _))).mono fun e w' ⟨h1, h2⟩ => ⟨h1, hb.trans (h2.mono hb.size), h2⟩)
  clear h1 h2 h3 hkn hkc hkl hkB h4 h5 h6 hm hK hKS hSG
  have hKK : (KS.toList == KS.toList) = true := by simp
  have hGG : (SG.toList == SG.toList) = true := by simp
  go_enter Tryz.func4, Tryz.ntmps4
  go_upto_region 1 with fail
  refine wp_region_held_drew (S := fun w' => Below w.heap.size w w') (by kernel_rfl) ((Below.refl _ w).drew) (fun hHeld => ?_)
  refine wpAnyH_take (i := 0) (oi := { dst := some 15, op := Op.move (Operand.tmp 0), type := 9, pos := "law.go:36", after := #[], guard := none }) (v := ?_) rfl (by kernel_rfl) (by kernel_rfl) (by kernel_rfl) (fun _ _ _ h => h) (Or.inl ⟨by rfl, ?_⟩) (by assumption) ?_
  rotate_left
  · intro w hSw
    try dsimp only at hSw
    go_simp
    all_goals with_reducible rfl
  try simp only [Act.put, List.setIfInBounds_toArray, List.set_cons_zero, List.set_cons_succ]
  refine wpAnyH_take (i := 1) (oi := { dst := some 16, op := Op.move (Operand.tmp 1), type := 9, pos := "law.go:36", after := #[], guard := none }) (v := ?_) rfl (by kernel_rfl) (by kernel_rfl) (by kernel_rfl) (fun _ _ _ h => h) (Or.inl ⟨by rfl, ?_⟩) (by assumption) ?_
  rotate_left
  · intro w hSw
    try dsimp only at hSw
    go_simp
    all_goals with_reducible rfl
  try simp only [Act.put, List.setIfInBounds_toArray, List.set_cons_zero, List.set_cons_succ]
  refine wpAnyH_take (i := 2) (oi := { dst := some 17, op := Op.move (Operand.tmp 2), type := 9, pos := "law.go:36", after := #[], guard := none }) (v := ?_) rfl (by kernel_rfl) (by kernel_rfl) (by kernel_rfl) (fun _ _ _ h => h) (Or.inl ⟨by rfl, ?_⟩) (by assumption) ?_
  rotate_left
  · intro w hSw
    try dsimp only at hSw
    go_simp
    all_goals with_reducible rfl
  try simp only [Act.put, List.setIfInBounds_toArray, List.set_cons_zero, List.set_cons_succ]
  refine wpAnyH_take (i := 5) (oi := { dst := some 20, op := Op.move (Operand.tmp 0), type := 9, pos := "law.go:36", after := #[], guard := none }) (v := ?_) rfl (by kernel_rfl) (by kernel_rfl) (by kernel_rfl) (fun _ _ _ h => h) (Or.inl ⟨by rfl, ?_⟩) (by assumption) ?_
  rotate_left
  · intro w hSw
    try dsimp only at hSw
    go_simp
    all_goals with_reducible rfl
  try simp only [Act.put, List.setIfInBounds_toArray, List.set_cons_zero, List.set_cons_succ]
  refine wpAnyH_take (i := 6) (oi := { dst := some 21, op := Op.move (Operand.tmp 1), type := 9, pos := "law.go:36", after := #[], guard := none }) (v := ?_) rfl (by kernel_rfl) (by kernel_rfl) (by kernel_rfl) (fun _ _ _ h => h) (Or.inl ⟨by rfl, ?_⟩) (by assumption) ?_
  rotate_left
  · intro w hSw
    try dsimp only at hSw
    go_simp
    all_goals with_reducible rfl
  try simp only [Act.put, List.setIfInBounds_toArray, List.set_cons_zero, List.set_cons_succ]
  refine wpAnyH_take (i := 7) (oi := { dst := some 22, op := Op.move (Operand.tmp 2), type := 9, pos := "law.go:36", after := #[], guard := none }) (v := ?_) rfl (by kernel_rfl) (by kernel_rfl) (by kernel_rfl) (fun _ _ _ h => h) (Or.inl ⟨by rfl, ?_⟩) (by assumption) ?_
  rotate_left
  · intro w hSw
    try dsimp only at hSw
    go_simp
    all_goals with_reducible rfl
  try simp only [Act.put, List.setIfInBounds_toArray, List.set_cons_zero, List.set_cons_succ]
  refine wpAnyH_ready (rs := [3]) (by kernel_rfl) (by simp) ?_
  refine AllReadyH.cons (o := { dst := some 18, op := Op.call { callee := Callee.value (Operand.func 12), args := #[Operand.tmp 15, Operand.tmp 16, Operand.tmp 17, Operand.const (Value.string { data := #[115, 51] })], argTypes := #[9, 9, 9, 9] }, type := 23, pos := "law.go:36", after := #[{ on := 0, ground := Ground.data }, { on := 1, ground := Ground.data }, { on := 2, ground := Ground.data }], guard := none }) rfl (fun K0 hK => ?_) AllReadyH.nil
  go_simp
  go_at_call 12
  refine Calls.mono (KE.out _ ((Below.refl _ w).drew)) ?_
  rintro e w2 ⟨a2, c2, rfl, hB2, hb2⟩
  refine hK.out _ _ hb2 (fun hHeld => ?_)
  clear hK K0
  try simp only [Act.put, List.setIfInBounds_toArray, List.set_cons_zero, List.set_cons_succ]
  clear hHeld
  have HB2 := (show Hid (Bytes w2 a2 K ∧ Below w.heap.size w w2) from ⟨hB2, hb2⟩)
  have hS1 : Below w2.heap.size w2 w2 ∧ (convert 23 9 (.slice a2 K.length c2)).run Tryz.prog w2 = .ok (.string KS) w2 := ⟨Below.refl _ _, by rw [HKS.out]; exact convert_bytes w2 a2 c2 K hB2⟩
  clear hB2 hb2
  refine wpAnyH_turn (S1 := fun w' => Below w2.heap.size w2 w' ∧ (convert 23 9 (.slice a2 K.length c2)).run Tryz.prog w' = .ok (.string KS) w') (fun w' h => HB2.out.2.trans (h.1.mono HB2.out.2.size)) _ _ _ _ ?_
  refine wpAnyH_take (i := 4) (oi := { dst := some 19, op := Op.convert 23 9 (Operand.tmp 18), type := 9, pos := "law.go:36", after := #[{ on := 3, ground := Ground.data }], guard := none }) (v := ?_) rfl (by kernel_rfl) (by kernel_rfl) (by kernel_rfl) (fun _ _ _ h => h) (Or.inl ⟨by rfl, ?_⟩) (by assumption) ?_
  rotate_left
  · intro w hSw
    try dsimp only at hSw
    go_simp
    all_goals with_reducible rfl
  try simp only [Act.put, List.setIfInBounds_toArray, List.set_cons_zero, List.set_cons_succ]
  refine wpAnyH_ready (rs := [8]) (by kernel_rfl) (by simp) ?_
  refine AllReadyH.cons (o := { dst := some 23, op := Op.call { callee := Callee.value (Operand.func 13), args := #[Operand.tmp 20, Operand.tmp 21, Operand.tmp 22, Operand.const (Value.string { data := #[115, 51] })], argTypes := #[9, 9, 9, 9] }, type := 23, pos := "law.go:36", after := #[{ on := 5, ground := Ground.data }, { on := 6, ground := Ground.data }, { on := 7, ground := Ground.data }, { on := 3, ground := Ground.chain }], guard := none }) rfl (fun K0 hK => ?_) AllReadyH.nil
  go_simp
  go_at_call 13
  refine Calls.mono (KR.out _ HB2.out.2) ?_
  rintro e w3 ⟨a3, c3, rfl, hB3, hb3, hk3⟩
  refine hK.out _ _ ⟨hk3, by rw [HKS.out]; exact convert_bytes w3 a2 c2 K (HB2.out.1.below hk3 (Nat.le_refl _))⟩ (fun hHeld => ?_)
  clear hK K0
  try simp only [Act.put, List.setIfInBounds_toArray, List.set_cons_zero, List.set_cons_succ]
  clear hHeld hS1
  have HB3 := (show Hid (Bytes w3 a3 K ∧ Below w2.heap.size w2 w3 ∧ Below w.heap.size w w3) from ⟨hB3, hk3, hb3⟩)
  have hS2 : Below w3.heap.size w3 w3 ∧ (convert 23 9 (.slice a3 K.length c3)).run Tryz.prog w3 = .ok (.string KS) w3 := ⟨Below.refl _ _, by rw [HKS.out]; exact convert_bytes w3 a3 c3 K hB3⟩
  clear hB3 hb3 hk3
  refine wpAnyH_turn (S1 := fun w' => Below w3.heap.size w3 w' ∧ (convert 23 9 (.slice a3 K.length c3)).run Tryz.prog w' = .ok (.string KS) w') (fun w' h => ⟨HB3.out.2.1.trans (h.1.mono HB3.out.2.1.size), by rw [HKS.out]; exact convert_bytes w' a2 c2 K ((HB2.out.1.below HB3.out.2.1 (Nat.le_refl _)).below h.1 (Nat.le_refl _))⟩) _ _ _ _ ?_
  refine wpAnyH_take (i := 9) (oi := { dst := some 24, op := Op.convert 23 9 (Operand.tmp 23), type := 9, pos := "law.go:36", after := #[{ on := 8, ground := Ground.data }], guard := none }) (v := ?_) rfl (by kernel_rfl) (by kernel_rfl) (by kernel_rfl) (fun _ _ _ h => h) (Or.inl ⟨by rfl, ?_⟩) (by assumption) ?_
  rotate_left
  · intro w hSw
    try dsimp only at hSw
    go_simp
    all_goals with_reducible rfl
  try simp only [Act.put, List.setIfInBounds_toArray, List.set_cons_zero, List.set_cons_succ]
  refine wpAnyH_take (i := 10) (oi := { dst := some 25, op := Op.binOp BinOp.eql 9 (Operand.tmp 19) (Operand.tmp 24) 9, type := 4, pos := "law.go:36", after := #[{ on := 4, ground := Ground.data }, { on := 9, ground := Ground.data }], guard := none }) (v := ?_) rfl (by kernel_rfl) (by kernel_rfl) (by kernel_rfl) (fun _ _ _ h => h) (Or.inl ⟨by rfl, ?_⟩) (by assumption) ?_
  rotate_left
  · intro w hSw
    try dsimp only at hSw
    go_simp
    all_goals with_reducible rfl
  try simp only [Act.put, List.setIfInBounds_toArray, List.set_cons_zero, List.set_cons_succ]
  refine wpAnyH_take (i := 11) (oi := { dst := some 26, op := Op.move (Operand.tmp 25), type := 4, pos := "law.go:36", after := #[{ on := 10, ground := Ground.data }, { on := 8, ground := Ground.chain }], guard := none }) (v := ?_) rfl (by kernel_rfl) (by kernel_rfl) (by kernel_rfl) (fun _ _ _ h => h) (Or.inl ⟨by rfl, ?_⟩) (by assumption) ?_
  rotate_left
  · intro w hSw
    try dsimp only at hSw
    go_simp
    all_goals with_reducible rfl
  try simp only [Act.put, List.setIfInBounds_toArray, List.set_cons_zero, List.set_cons_succ]
  refine wpAnyH_take (i := 12) (oi := { dst := some 27, op := Op.move (Operand.tmp 3), type := 23, pos := "law.go:36", after := #[{ on := 11, ground := Ground.guard }], guard := some (11, true) }) (v := ?_) rfl (by kernel_rfl) (by kernel_rfl) (by kernel_rfl) (fun _ _ _ h => h) (Or.inl ⟨by rfl, ?_⟩) (by assumption) ?_
  rotate_left
  · intro w hSw
    try dsimp only at hSw
    go_simp
    all_goals with_reducible rfl
  try simp only [Act.put, List.setIfInBounds_toArray, List.set_cons_zero, List.set_cons_succ]
  refine wpAnyH_take (i := 13) (oi := { dst := some 28, op := Op.move (Operand.tmp 4), type := 9, pos := "law.go:36", after := #[{ on := 11, ground := Ground.guard }], guard := some (11, true) }) (v := ?_) rfl (by kernel_rfl) (by kernel_rfl) (by kernel_rfl) (fun _ _ _ h => h) (Or.inl ⟨by rfl, ?_⟩) (by assumption) ?_
  rotate_left
  · intro w hSw
    try dsimp only at hSw
    go_simp
    all_goals with_reducible rfl
  try simp only [Act.put, List.setIfInBounds_toArray, List.set_cons_zero, List.set_cons_succ]
  refine wpAnyH_take (i := 14) (oi := { dst := some 29, op := Op.move (Operand.tmp 5), type := 9, pos := "law.go:36", after := #[{ on := 11, ground := Ground.guard }], guard := some (11, true) }) (v := ?_) rfl (by kernel_rfl) (by kernel_rfl) (by kernel_rfl) (fun _ _ _ h => h) (Or.inl ⟨by rfl, ?_⟩) (by assumption) ?_
  rotate_left
  · intro w hSw
    try dsimp only at hSw
    go_simp
    all_goals with_reducible rfl
  try simp only [Act.put, List.setIfInBounds_toArray, List.set_cons_zero, List.set_cons_succ]
  refine wpAnyH_take (i := 15) (oi := { dst := some 30, op := Op.move (Operand.tmp 6), type := 9, pos := "law.go:36", after := #[{ on := 11, ground := Ground.guard }], guard := some (11, true) }) (v := ?_) rfl (by kernel_rfl) (by kernel_rfl) (by kernel_rfl) (fun _ _ _ h => h) (Or.inl ⟨by rfl, ?_⟩) (by assumption) ?_
  rotate_left
  · intro w hSw
    try dsimp only at hSw
    go_simp
    all_goals with_reducible rfl
  try simp only [Act.put, List.setIfInBounds_toArray, List.set_cons_zero, List.set_cons_succ]
  refine wpAnyH_take (i := 17) (oi := { dst := some 32, op := Op.move (Operand.tmp 3), type := 23, pos := "law.go:36", after := #[{ on := 11, ground := Ground.guard }], guard := some (11, true) }) (v := ?_) rfl (by kernel_rfl) (by kernel_rfl) (by kernel_rfl) (fun _ _ _ h => h) (Or.inl ⟨by rfl, ?_⟩) (by assumption) ?_
  rotate_left
  · intro w hSw
    try dsimp only at hSw
    go_simp
    all_goals with_reducible rfl
  try simp only [Act.put, List.setIfInBounds_toArray, List.set_cons_zero, List.set_cons_succ]
  refine wpAnyH_take (i := 18) (oi := { dst := some 33, op := Op.move (Operand.tmp 4), type := 9, pos := "law.go:36", after := #[{ on := 11, ground := Ground.guard }], guard := some (11, true) }) (v := ?_) rfl (by kernel_rfl) (by kernel_rfl) (by kernel_rfl) (fun _ _ _ h => h) (Or.inl ⟨by rfl, ?_⟩) (by assumption) ?_
  rotate_left
  · intro w hSw
    try dsimp only at hSw
    go_simp
    all_goals with_reducible rfl
  try simp only [Act.put, List.setIfInBounds_toArray, List.set_cons_zero, List.set_cons_succ]
  refine wpAnyH_take (i := 19) (oi := { dst := some 34, op := Op.move (Operand.tmp 5), type := 9, pos := "law.go:36", after := #[{ on := 11, ground := Ground.guard }], guard := some (11, true) }) (v := ?_) rfl (by kernel_rfl) (by kernel_rfl) (by kernel_rfl) (fun _ _ _ h => h) (Or.inl ⟨by rfl, ?_⟩) (by assumption) ?_
  rotate_left
  · intro w hSw
    try dsimp only at hSw
    go_simp
    all_goals with_reducible rfl
  try simp only [Act.put, List.setIfInBounds_toArray, List.set_cons_zero, List.set_cons_succ]
  refine wpAnyH_take (i := 20) (oi := { dst := some 35, op := Op.move (Operand.tmp 6), type := 9, pos := "law.go:36", after := #[{ on := 11, ground := Ground.guard }], guard := some (11, true) }) (v := ?_) rfl (by kernel_rfl) (by kernel_rfl) (by kernel_rfl) (fun _ _ _ h => h) (Or.inl ⟨by rfl, ?_⟩) (by assumption) ?_
  rotate_left
  · intro w hSw
    try dsimp only at hSw
    go_simp
    all_goals with_reducible rfl
  try simp only [Act.put, List.setIfInBounds_toArray, List.set_cons_zero, List.set_cons_succ]
  refine wpAnyH_ready (rs := [16]) (by kernel_rfl) (by simp) ?_
  refine AllReadyH.cons (o := { dst := some 31, op := Op.call { callee := Callee.value (Operand.func 14), args := #[Operand.tmp 27, Operand.tmp 28, Operand.tmp 29, Operand.tmp 30], argTypes := #[23, 9, 9, 9] }, type := 9, pos := "law.go:36", after := #[{ on := 12, ground := Ground.data }, { on := 13, ground := Ground.data }, { on := 14, ground := Ground.data }, { on := 15, ground := Ground.data }, { on := 11, ground := Ground.chain }, { on := 11, ground := Ground.guard }], guard := some (11, true) }) rfl (fun K0 hK => ?_) AllReadyH.nil
  go_simp
  go_at_call 14
  refine Calls.mono (S1.out _ HB3.out.2.2) ?_
  rintro e w4 ⟨rfl, hb4, hk4⟩
  refine hK.out _ _ ⟨hk4, by rw [HKS.out]; exact convert_bytes w4 a3 c3 K (HB3.out.1.below hk4 (Nat.le_refl _))⟩ (fun hHeld => ?_)
  clear hK K0
  try simp only [Act.put, List.setIfInBounds_toArray, List.set_cons_zero, List.set_cons_succ]
  clear hS2
  refine wpAnyH_ready (rs := [21]) (by kernel_rfl) (by simp) ?_
  refine AllReadyH.cons (o := { dst := some 36, op := Op.call { callee := Callee.value (Operand.func 15), args := #[Operand.tmp 32, Operand.tmp 33, Operand.tmp 34, Operand.tmp 35], argTypes := #[23, 9, 9, 9] }, type := 9, pos := "law.go:36", after := #[{ on := 17, ground := Ground.data }, { on := 18, ground := Ground.data }, { on := 19, ground := Ground.data }, { on := 20, ground := Ground.data }, { on := 16, ground := Ground.chain }, { on := 11, ground := Ground.guard }], guard := some (11, true) }) rfl (fun K0 hK => ?_) AllReadyH.nil
  go_simp
  go_at_call 15
  refine Calls.mono (S2.out _ hb4) ?_
  rintro e w5 ⟨rfl, hb5, hk5⟩
  have hk5 := hk4.trans (hk5.mono hk4.size)
  refine hK.out _ _ ⟨hk5, by rw [HKS.out]; exact convert_bytes w5 a3 c3 K (HB3.out.1.below hk5 (Nat.le_refl _))⟩ (fun hHeld => ?_)
  clear hK K0
  try simp only [Act.put, List.setIfInBounds_toArray, List.set_cons_zero, List.set_cons_succ]
  refine wpAnyH_take (i := 22) (oi := { dst := some 37, op := Op.binOp BinOp.eql 9 (Operand.tmp 31) (Operand.tmp 36) 9, type := 4, pos := "law.go:36", after := #[{ on := 16, ground := Ground.data }, { on := 21, ground := Ground.data }, { on := 11, ground := Ground.guard }], guard := some (11, true) }) (v := ?_) rfl (by kernel_rfl) (by kernel_rfl) (by kernel_rfl) (fun _ _ _ h => h) (Or.inl ⟨by rfl, ?_⟩) (by assumption) ?_
  rotate_left
  · intro w hSw
    try dsimp only at hSw
    go_simp
    all_goals with_reducible rfl
  try simp only [Act.put, List.setIfInBounds_toArray, List.set_cons_zero, List.set_cons_succ]
  refine wpAnyH_take (i := 23) (oi := { dst := some 38, op := Op.pick (Operand.tmp 26) (Operand.tmp 37) (Operand.const (Value.bool false)), type := 4, pos := "law.go:36", after := #[{ on := 11, ground := Ground.data }, { on := 22, ground := Ground.data }], guard := none }) (v := ?_) rfl (by kernel_rfl) (by kernel_rfl) (by kernel_rfl) (fun _ _ _ h => h) (Or.inl ⟨by rfl, ?_⟩) (by assumption) ?_
  rotate_left
  · intro w hSw
    try dsimp only at hSw
    go_simp
    all_goals with_reducible rfl
  try simp only [Act.put, List.setIfInBounds_toArray, List.set_cons_zero, List.set_cons_succ]
  refine wpAnyH_take (i := 24) (oi := { dst := some 39, op := Op.move (Operand.tmp 38), type := 4, pos := "law.go:36", after := #[{ on := 23, ground := Ground.data }, { on := 21, ground := Ground.chain }], guard := none }) (v := ?_) rfl (by kernel_rfl) (by kernel_rfl) (by kernel_rfl) (fun _ _ _ h => h) (Or.inl ⟨by rfl, ?_⟩) (by assumption) ?_
  rotate_left
  · intro w hSw
    try dsimp only at hSw
    go_simp
    all_goals with_reducible rfl
  try simp only [Act.put, List.setIfInBounds_toArray, List.set_cons_zero, List.set_cons_succ]
  refine wpAnyH_ready (rs := [25]) (by kernel_rfl) (by simp) ?_
  refine AllReadyH.cons (o := { dst := some 40, op := Op.call { callee := Callee.value (Operand.func 11), args := #[], argTypes := #[] }, type := 4, pos := "law.go:36", after := #[{ on := 24, ground := Ground.chain }, { on := 24, ground := Ground.guard }], guard := some (24, true) }) rfl (fun K0 hK => ?_) AllReadyH.nil
  go_simp
  go_at_call 11
  refine Calls.mono (AW.out _ hb5) ?_
  rintro e w6 ⟨rfl, hb6, hk6⟩
  have hk6 := hk5.trans (hk6.mono hk5.size)
  refine hK.out _ _ ⟨hk6, by rw [HKS.out]; exact convert_bytes w6 a3 c3 K (HB3.out.1.below hk6 (Nat.le_refl _))⟩ (fun hHeld => ?_)
  clear hK K0
  try simp only [Act.put, List.setIfInBounds_toArray, List.set_cons_zero, List.set_cons_succ]
  refine wpAnyH_take (i := 26) (oi := { dst := some 41, op := Op.pick (Operand.tmp 39) (Operand.tmp 40) (Operand.const (Value.bool false)), type := 4, pos := "law.go:36", after := #[{ on := 24, ground := Ground.data }, { on := 25, ground := Ground.data }], guard := none }) (v := ?_) rfl (by kernel_rfl) (by kernel_rfl) (by kernel_rfl) (fun _ _ _ h => h) (Or.inl ⟨by rfl, ?_⟩) (by assumption) ?_
  rotate_left
  · intro w hSw
    try dsimp only at hSw
    go_simp
    all_goals with_reducible rfl
  try simp only [Act.put, List.setIfInBounds_toArray, List.set_cons_zero, List.set_cons_succ]
  refine wpAnyH_take (i := 27) (oi := { dst := some 14, op := Op.assign (Operand.tmp 41), type := 4, pos := "law.go:36", after := #[{ on := 26, ground := Ground.data }, { on := 25, ground := Ground.chain }, { on := 0, ground := Ground.phase }, { on := 1, ground := Ground.phase }, { on := 2, ground := Ground.phase }, { on := 3, ground := Ground.phase }, { on := 4, ground := Ground.phase }, { on := 5, ground := Ground.phase }, { on := 6, ground := Ground.phase }, { on := 7, ground := Ground.phase }, { on := 8, ground := Ground.phase }, { on := 9, ground := Ground.phase }, { on := 10, ground := Ground.phase }, { on := 11, ground := Ground.phase }, { on := 12, ground := Ground.phase }, { on := 13, ground := Ground.phase }, { on := 14, ground := Ground.phase }, { on := 15, ground := Ground.phase }, { on := 16, ground := Ground.phase }, { on := 17, ground := Ground.phase }, { on := 18, ground := Ground.phase }, { on := 19, ground := Ground.phase }, { on := 20, ground := Ground.phase }, { on := 21, ground := Ground.phase }, { on := 22, ground := Ground.phase }, { on := 23, ground := Ground.phase }, { on := 24, ground := Ground.phase }, { on := 25, ground := Ground.phase }, { on := 26, ground := Ground.phase }], guard := none }) (v := ?_) rfl (by kernel_rfl) (by kernel_rfl) (by kernel_rfl) (fun _ _ _ h => h) (Or.inl ⟨by rfl, ?_⟩) (by assumption) ?_
  rotate_left
  · intro w hSw
    try dsimp only at hSw
    go_simp
    all_goals with_reducible rfl
  try simp only [Act.put, List.setIfInBounds_toArray, List.set_cons_zero, List.set_cons_succ]
  refine wpAnyH_done (by kernel_rfl) ?_ _
  go_wp2_with fail
  go_ret
  exact ⟨rfl, hb6⟩
end Go.Proofs.YtnmffehmjgknkaaGreatDoor
