/-
  The bytes of a body or a chunk (reader.take).
-/
import Derived.Test.YtmodmeabjhaklaaGreatDoorHdr
namespace Go.Proofs.YtmodmeabjhaklaaGreatDoor
open Go.RowKit

theorem cell_off {w : World} {p i j : Nat} {v u : Value} (h : w.cell? ⟨p, j, none⟩ = some u) (hij : i ≠ j) : (w.setCell ⟨p, i, none⟩ v).cell? ⟨p, j, none⟩ = some u :=
  (World.cell?_setCell_other w _ _ v (by intro e; simp only [Addr.mk.injEq] at e; omega)).trans h
set_option maxRecDepth 20000 in
set_option maxHeartbeats 1000000 in
theorem take_no {w0 w : World} {p : Nat} {l : List UInt8} {s : St} {a : Option Addr} {cap : Nat} {T : Tl} {hv pv : Value} {xs : List Sl} (h : Rd w0 w p l s a cap T hv pv xs) (hlt : l.length - s.at_ < s.size) :
    Calls Tryz.prog 47 #[.pointer (some ⟨p, 0, none⟩)] w fun e w' => e = .returned (.bool false) ∧ Rd w0 w' p l s a cap T hv pv xs ∧ Below p w w' := by
  have c0 : w.cell? ⟨p, 0, none⟩ = some (.slice a l.length cap) := h.rb.cell 0 rfl
  have c1 : w.cell? ⟨p, 1, none⟩ = some (.int .i64 (s.at_ : Int)) := h.rb.cell 1 rfl
  have c17 : w.cell? ⟨p, 17, none⟩ = some (.int .i64 (s.size : Int)) := h.rb.cell 17 rfl
  have ha1 := h.inv.at_
  have hl9 := h.inv.len
  have hs9 := h.inv.size
  have H := (show Hid _ from h)
  have hlti : (l.length : Int) - (s.at_ : Int) < (s.size : Int) := by omega
  clear h hlt
  go_enter Tryz.func47, Tryz.ntmps47
  go_wp2
  go_quiet (fail)
  go_wp2
  go_ret
  exact ⟨rfl, H.out.below (drewN_below w _), (drewN_below w _).mono (Nat.le_of_lt H.out.rb.lt)⟩
set_option maxRecDepth 20000 in
set_option maxHeartbeats 2000000 in
theorem take_yes {w0 w : World} {p : Nat} {l : List UInt8} {s : St} {a : Option Addr} {cap : Nat} {T : Tl} {hv pv : Value} {xs : List Sl} (h : Rd w0 w p l s a cap T hv pv xs) (hlt : ¬ l.length - s.at_ < s.size) (hinv : Inv l (takeL l s)) :
    Calls Tryz.prog 47 #[.pointer (some ⟨p, 0, none⟩)] w fun e w' => e = .returned (.bool true) ∧ (∃ pv' xs', Rd w0 w' p l (takeL l s) a cap T hv pv' xs') ∧ Below p w w' := by
  have c0 : w.cell? ⟨p, 0, none⟩ = some (.slice a l.length cap) := h.rb.cell 0 rfl
  have c1 : w.cell? ⟨p, 1, none⟩ = some (.int .i64 (s.at_ : Int)) := h.rb.cell 1 rfl
  have c17 : w.cell? ⟨p, 17, none⟩ = some (.int .i64 (s.size : Int)) := h.rb.cell 17 rfl
  have ha1 := h.inv.at_
  have hl9 := h.inv.len
  have hs9 := h.inv.size
  have hsum := h.inv.sum
  have hcap := h.cap
  have H := (show Hid _ from h)
  have hlti : ¬ (l.length : Int) - (s.at_ : Int) < (s.size : Int) := by omega
  clear hlt
  go_enter Tryz.func47, Tryz.ntmps47
  go_wp2
  go_quiet (fail)
  generalize hW : w.drewN nq = W
  have hW1 : Below w.heap.size w W := by rw [← hW]; exact drewN_below w _
  have hr := h.below hW1
  clear c0 c1 c17 h hW
  have c0 : W.cell? ⟨p, 0, none⟩ = some (.slice a l.length cap) := hr.rb.cell 0 rfl
  have c1 : W.cell? ⟨p, 1, none⟩ = some (.int .i64 (s.at_ : Int)) := hr.rb.cell 1 rfl
  have c17 : W.cell? ⟨p, 17, none⟩ = some (.int .i64 (s.size : Int)) := hr.rb.cell 17 rfl
  have c18 : W.cell? ⟨p, 18, none⟩ = some pv := hr.rb.cell 18 rfl
  have f18 := hr.rb.fz 18
  obtain ⟨pa, pc, hpe⟩ := own_slice hr.ps
  obtain ⟨i0, hi, hz0, hz1, hz2⟩ := info_parts info22
  have hpl := hr.rb.lt
  have hxl : xs.length ≤ 1000000000 := by
    have h1 := hr.inv.pcs
    have h2 : s.pcs.length = xs.length := by rw [← hr.pl, List.length_map]
    omega
  have hsz : (takeL l s).pcs = s.pcs ++ [(l.drop s.at_).take s.size] := rfl
  have htk : ((l.drop s.at_).take s.size).length = s.size := by rw [List.length_take, List.length_drop]; omega
  obtain ⟨E, hE⟩ : ∃ E : Nat, E = s.at_ + s.size := ⟨_, rfl⟩
  have hEs : E - s.at_ = s.size := by omega
  obtain ⟨V, hV⟩ : ∃ V : Value, V = .slice (fromA a cap s.at_) (E - s.at_) (cap - s.at_) := ⟨_, rfl⟩
  obtain ⟨O, hO⟩ : ∃ O : Obj, O = .cells #[V] 22 := ⟨_, rfl⟩
  have hbX : Below W.heap.size W (W.alloc O).drew := ((Below.refl _ _).alloc (Nat.le_refl _) _).drew
  have hrX := hr.below hbX
  have own5 := hrX.ps
  have hbase5 : p + 1 ≤ ((W.alloc O).drew).heap.size := Nat.le_trans hpl hbX.size
  have HZ5 := (show Hid (∀ j u, [V][j]? = some u → ((W.alloc O).drew).cell? ((⟨W.heap.size, 0, none⟩ : Addr).add j) = some u) from by
    rw [hO]
    exact cell_one_new W V 22)
  have hV1 : ∀ u ∈ [V], u.oneCell' = true := by rw [hV]; exact one_one _ rfl
  have HK5 := (show Hid (∀ w5, ((W.alloc O).drew).grownBy w5 pv.ownBlock → Rb w5 p (rsOf s (.slice a l.length cap) T hv pv)) from fun w5 hg => hrX.rb.keep (Md.ofGrown hg) (fun hh => own_ne hrX.ps hrX.rb (by decide) p hh rfl))
  have HFIN := (show Hid (∀ w5 v5 w6, ((W.alloc O).drew).grownBy w5 pv.ownBlock → w5.ownsRow (p + 1) 22 1 v5 (xs.length + 1) (xs.map Sl.v ++ [V]) → Rb w6 p (rsOf (takeL l s) (.slice a l.length cap) T hv v5) → Md (· = p) w5 w6 → (∃ pv' xs', Rd w0 w6 p l (takeL l s) a cap T hv pv' xs') ∧ Below p w w6) from by
    intro w5 v5 w6 hg ho hr6 hm6
    have hr5 := HK5.out w5 hg
    have hb5 : Below p W w6 := ((hbX.mono (Nat.le_of_lt hpl)).grown hg (Nat.le_of_lt (Nat.lt_of_lt_of_le hpl hbX.size)) (fun k hk => by have := (hrX.ps.lt k hk).1; omega)).trans (hm6.toBl hr5.lt)
    refine ⟨⟨v5, xs ++ [⟨fromA a cap s.at_, (l.drop s.at_).take s.size, cap - s.at_⟩], hr6, hr.an, hr.cap, hr.by_, hr.ab, hr.lo, hr.bl.trans (hb5.mono hr.lo), ?_, ?_, ?_, ?_, hr.mx, hr.er, hinv⟩, (hW1.mono (Nat.le_of_lt H.out.rb.lt)).trans hb5⟩
    · exact own_md (own_md hrX.hs (Md.ofGrown hg) (fun j hj hh => own_own hrX.hs hrX.ps (by decide) j hj hh)) hm6 (fun j hj => own_ne hrX.hs hrX.rb (by decide) j hj)
    · have e2 : (xs ++ [(⟨fromA a cap s.at_, (l.drop s.at_).take s.size, cap - s.at_⟩ : Sl)]).map Sl.v = xs.map Sl.v ++ [V] := by
        rw [List.map_append, hV, hEs]
        simp [Sl.v, htk]
      rw [e2, List.length_append]
      exact own_md ho hm6 (fun j hj => own_ne ho hr5 (by decide) j hj)
    · rw [hsz, List.map_append, hr.pl]
      rfl
    · intro x hx
      rcases List.mem_append.1 hx with hx | hx
      · exact hr.pb x hx
      · simp only [List.mem_singleton] at hx
        subst hx
        refine ⟨bytes_take (bytes_from hr.by_ hr.cap) _, fun hn => ?_⟩
        have han := hr.an
        simp only at hn ⊢
        unfold fromA at hn
        split at hn
        · omega
        · have : a = none := by simpa using hn
          have := han this
          omega)
  rw [hpe] at c18 own5 HK5 HFIN
  have HX := (show Hid _ from hr)
  clear hr hrX hinv hsz htk
  have hk0 : (0 : Int) ≤ (s.at_ : Int) := by omega
  have hwr : IntKind.i64.wrap ((s.at_ : Int) + (s.size : Int)) = (E : Int) := by
    simp [IntKind.wrap, IntKind.bits, IntKind.signed]
    omega
  have hk2 : (E : Int) ≤ (cap : Int) := by omega
  have hk3 : (0 : Int) ≤ (E : Int) := by omega
  have hk4 : s.at_ ≤ E := by omega
  have hE9 : E ≤ 1000000000 := by omega
  have HE : Hid (E = s.at_ + s.size) := hE
  clear hE hEs
  unfold fromA at hV
  subst hV hO
  go_wp2_with fail
  refine wp_region_held_drew (S := fun w' => w'.cell? ⟨p, 0, none⟩ = some (.slice a l.length cap) ∧ w'.cell? ⟨p, 1, none⟩ = some (.int .i64 (s.at_ : Int)) ∧ w'.cell? ⟨p, 17, none⟩ = some (.int .i64 (s.size : Int))) (by kernel_rfl) ?_ (fun hHeld => ?_)
  · first | (refine ⟨?_, ?_, ?_⟩ <;> assumption) | (refine ⟨cell_off ?_ (by decide), cell_off ?_ (by decide), cell_off ?_ (by decide)⟩ <;> assumption) | go_keep
  refine wpAnyH_take (i := 0) (oi := { dst := some 18, op := Op.move (Operand.tmp 0), type := 52, pos := "parse.go:250", after := #[], guard := none }) (v := ?_) rfl (by kernel_rfl) (by kernel_rfl) (by kernel_rfl) (fun _ _ _ h => h) (Or.inl ⟨by rfl, ?_⟩) (by assumption) ?_
  rotate_left
  · intro w hSw
    try dsimp only at hSw
    go_simp
    all_goals with_reducible rfl
  all_goals skip
  try simp only [Act.put, List.setIfInBounds_toArray, List.set_cons_zero, List.set_cons_succ]
  refine wpAnyH_take (i := 1) (oi := { dst := some 19, op := Op.move (Operand.tmp 0), type := 52, pos := "parse.go:250", after := #[], guard := none }) (v := ?_) rfl (by kernel_rfl) (by kernel_rfl) (by kernel_rfl) (fun _ _ _ h => h) (Or.inl ⟨by rfl, ?_⟩) (by assumption) ?_
  rotate_left
  · intro w hSw
    try dsimp only at hSw
    go_simp
    all_goals with_reducible rfl
  all_goals skip
  try simp only [Act.put, List.setIfInBounds_toArray, List.set_cons_zero, List.set_cons_succ]
  refine wpAnyH_take (i := 2) (oi := { dst := some 20, op := Op.nilCheck (Operand.tmp 19), type := 0, pos := "parse.go:250", after := #[{ on := 1, ground := Ground.data }], guard := none }) (v := ?_) rfl (by kernel_rfl) (by kernel_rfl) (by kernel_rfl) (fun _ _ _ h => h) (Or.inl ⟨by rfl, ?_⟩) (by assumption) ?_
  rotate_left
  · intro w hSw
    try dsimp only at hSw
    go_simp
    all_goals with_reducible rfl
  all_goals skip
  try simp only [Act.put, List.setIfInBounds_toArray, List.set_cons_zero, List.set_cons_succ]
  refine wpAnyH_take (i := 3) (oi := { dst := some 21, op := Op.fieldAddr 54 (Operand.tmp 20) 7, type := 0, pos := "parse.go:250", after := #[{ on := 2, ground := Ground.data }], guard := none }) (v := ?_) rfl (by kernel_rfl) (by kernel_rfl) (by kernel_rfl) (fun _ _ _ h => h) (Or.inl ⟨by rfl, ?_⟩) (by assumption) ?_
  rotate_left
  · intro w hSw
    try dsimp only at hSw
    go_simp
    all_goals with_reducible rfl
  all_goals skip
  try simp only [Act.put, List.setIfInBounds_toArray, List.set_cons_zero, List.set_cons_succ]
  refine wpAnyH_take (i := 5) (oi := { dst := some 23, op := Op.move (Operand.tmp 0), type := 52, pos := "parse.go:250", after := #[], guard := none }) (v := ?_) rfl (by kernel_rfl) (by kernel_rfl) (by kernel_rfl) (fun _ _ _ h => h) (Or.inl ⟨by rfl, ?_⟩) (by assumption) ?_
  rotate_left
  · intro w hSw
    try dsimp only at hSw
    go_simp
    all_goals with_reducible rfl
  all_goals skip
  try simp only [Act.put, List.setIfInBounds_toArray, List.set_cons_zero, List.set_cons_succ]
  refine wpAnyH_take (i := 6) (oi := { dst := some 24, op := Op.nilCheck (Operand.tmp 23), type := 0, pos := "parse.go:250", after := #[{ on := 5, ground := Ground.data }], guard := none }) (v := ?_) rfl (by kernel_rfl) (by kernel_rfl) (by kernel_rfl) (fun _ _ _ h => h) (Or.inl ⟨by rfl, ?_⟩) (by assumption) ?_
  rotate_left
  · intro w hSw
    try dsimp only at hSw
    go_simp
    all_goals with_reducible rfl
  all_goals skip
  try simp only [Act.put, List.setIfInBounds_toArray, List.set_cons_zero, List.set_cons_succ]
  refine wpAnyH_take (i := 7) (oi := { dst := some 25, op := Op.fieldAddr 54 (Operand.tmp 24) 0, type := 0, pos := "parse.go:250", after := #[{ on := 6, ground := Ground.data }], guard := none }) (v := ?_) rfl (by kernel_rfl) (by kernel_rfl) (by kernel_rfl) (fun _ _ _ h => h) (Or.inl ⟨by rfl, ?_⟩) (by assumption) ?_
  rotate_left
  · intro w hSw
    try dsimp only at hSw
    go_simp
    all_goals with_reducible rfl
  all_goals skip
  try simp only [Act.put, List.setIfInBounds_toArray, List.set_cons_zero, List.set_cons_succ]
  refine wpAnyH_take (i := 8) (oi := { dst := some 26, op := Op.load 22 (Operand.tmp 25), type := 22, pos := "parse.go:250", after := #[{ on := 7, ground := Ground.data }], guard := none }) (v := ?_) rfl (by kernel_rfl) (by kernel_rfl) (by kernel_rfl) (fun _ _ _ h => h) (Or.inl ⟨by rfl, ?_⟩) (by assumption) ?_
  rotate_left
  · intro w hSw
    try dsimp only at hSw
    go_simp
    all_goals with_reducible rfl
  all_goals skip
  try simp only [Act.put, List.setIfInBounds_toArray, List.set_cons_zero, List.set_cons_succ]
  refine wpAnyH_take (i := 9) (oi := { dst := some 27, op := Op.move (Operand.tmp 0), type := 52, pos := "parse.go:250", after := #[], guard := none }) (v := ?_) rfl (by kernel_rfl) (by kernel_rfl) (by kernel_rfl) (fun _ _ _ h => h) (Or.inl ⟨by rfl, ?_⟩) (by assumption) ?_
  rotate_left
  · intro w hSw
    try dsimp only at hSw
    go_simp
    all_goals with_reducible rfl
  all_goals skip
  try simp only [Act.put, List.setIfInBounds_toArray, List.set_cons_zero, List.set_cons_succ]
  refine wpAnyH_take (i := 10) (oi := { dst := some 28, op := Op.nilCheck (Operand.tmp 27), type := 0, pos := "parse.go:250", after := #[{ on := 9, ground := Ground.data }], guard := none }) (v := ?_) rfl (by kernel_rfl) (by kernel_rfl) (by kernel_rfl) (fun _ _ _ h => h) (Or.inl ⟨by rfl, ?_⟩) (by assumption) ?_
  rotate_left
  · intro w hSw
    try dsimp only at hSw
    go_simp
    all_goals with_reducible rfl
  all_goals skip
  try simp only [Act.put, List.setIfInBounds_toArray, List.set_cons_zero, List.set_cons_succ]
  refine wpAnyH_take (i := 11) (oi := { dst := some 29, op := Op.fieldAddr 54 (Operand.tmp 28) 1, type := 0, pos := "parse.go:250", after := #[{ on := 10, ground := Ground.data }], guard := none }) (v := ?_) rfl (by kernel_rfl) (by kernel_rfl) (by kernel_rfl) (fun _ _ _ h => h) (Or.inl ⟨by rfl, ?_⟩) (by assumption) ?_
  rotate_left
  · intro w hSw
    try dsimp only at hSw
    go_simp
    all_goals with_reducible rfl
  all_goals skip
  try simp only [Act.put, List.setIfInBounds_toArray, List.set_cons_zero, List.set_cons_succ]
  refine wpAnyH_take (i := 12) (oi := { dst := some 30, op := Op.load 3 (Operand.tmp 29), type := 3, pos := "parse.go:250", after := #[{ on := 11, ground := Ground.data }], guard := none }) (v := ?_) rfl (by kernel_rfl) (by kernel_rfl) (by kernel_rfl) (fun _ _ _ h => h) (Or.inl ⟨by rfl, ?_⟩) (by assumption) ?_
  rotate_left
  · intro w hSw
    try dsimp only at hSw
    go_simp
    all_goals with_reducible rfl
  all_goals skip
  try simp only [Act.put, List.setIfInBounds_toArray, List.set_cons_zero, List.set_cons_succ]
  refine wpAnyH_take (i := 13) (oi := { dst := some 31, op := Op.move (Operand.tmp 0), type := 52, pos := "parse.go:250", after := #[], guard := none }) (v := ?_) rfl (by kernel_rfl) (by kernel_rfl) (by kernel_rfl) (fun _ _ _ h => h) (Or.inl ⟨by rfl, ?_⟩) (by assumption) ?_
  rotate_left
  · intro w hSw
    try dsimp only at hSw
    go_simp
    all_goals with_reducible rfl
  all_goals skip
  try simp only [Act.put, List.setIfInBounds_toArray, List.set_cons_zero, List.set_cons_succ]
  refine wpAnyH_take (i := 14) (oi := { dst := some 32, op := Op.nilCheck (Operand.tmp 31), type := 0, pos := "parse.go:250", after := #[{ on := 13, ground := Ground.data }], guard := none }) (v := ?_) rfl (by kernel_rfl) (by kernel_rfl) (by kernel_rfl) (fun _ _ _ h => h) (Or.inl ⟨by rfl, ?_⟩) (by assumption) ?_
  rotate_left
  · intro w hSw
    try dsimp only at hSw
    go_simp
    all_goals with_reducible rfl
  all_goals skip
  try simp only [Act.put, List.setIfInBounds_toArray, List.set_cons_zero, List.set_cons_succ]
  refine wpAnyH_take (i := 15) (oi := { dst := some 33, op := Op.fieldAddr 54 (Operand.tmp 32) 1, type := 0, pos := "parse.go:250", after := #[{ on := 14, ground := Ground.data }], guard := none }) (v := ?_) rfl (by kernel_rfl) (by kernel_rfl) (by kernel_rfl) (fun _ _ _ h => h) (Or.inl ⟨by rfl, ?_⟩) (by assumption) ?_
  rotate_left
  · intro w hSw
    try dsimp only at hSw
    go_simp
    all_goals with_reducible rfl
  all_goals skip
  try simp only [Act.put, List.setIfInBounds_toArray, List.set_cons_zero, List.set_cons_succ]
  refine wpAnyH_take (i := 16) (oi := { dst := some 34, op := Op.load 3 (Operand.tmp 33), type := 3, pos := "parse.go:250", after := #[{ on := 15, ground := Ground.data }], guard := none }) (v := ?_) rfl (by kernel_rfl) (by kernel_rfl) (by kernel_rfl) (fun _ _ _ h => h) (Or.inl ⟨by rfl, ?_⟩) (by assumption) ?_
  rotate_left
  · intro w hSw
    try dsimp only at hSw
    go_simp
    all_goals with_reducible rfl
  all_goals skip
  try simp only [Act.put, List.setIfInBounds_toArray, List.set_cons_zero, List.set_cons_succ]
  refine wpAnyH_take (i := 17) (oi := { dst := some 35, op := Op.move (Operand.tmp 0), type := 52, pos := "parse.go:250", after := #[], guard := none }) (v := ?_) rfl (by kernel_rfl) (by kernel_rfl) (by kernel_rfl) (fun _ _ _ h => h) (Or.inl ⟨by rfl, ?_⟩) (by assumption) ?_
  rotate_left
  · intro w hSw
    try dsimp only at hSw
    go_simp
    all_goals with_reducible rfl
  all_goals skip
  try simp only [Act.put, List.setIfInBounds_toArray, List.set_cons_zero, List.set_cons_succ]
  refine wpAnyH_take (i := 18) (oi := { dst := some 36, op := Op.nilCheck (Operand.tmp 35), type := 0, pos := "parse.go:250", after := #[{ on := 17, ground := Ground.data }], guard := none }) (v := ?_) rfl (by kernel_rfl) (by kernel_rfl) (by kernel_rfl) (fun _ _ _ h => h) (Or.inl ⟨by rfl, ?_⟩) (by assumption) ?_
  rotate_left
  · intro w hSw
    try dsimp only at hSw
    go_simp
    all_goals with_reducible rfl
  all_goals skip
  try simp only [Act.put, List.setIfInBounds_toArray, List.set_cons_zero, List.set_cons_succ]
  refine wpAnyH_take (i := 19) (oi := { dst := some 37, op := Op.fieldAddr 54 (Operand.tmp 36) 6, type := 0, pos := "parse.go:250", after := #[{ on := 18, ground := Ground.data }], guard := none }) (v := ?_) rfl (by kernel_rfl) (by kernel_rfl) (by kernel_rfl) (fun _ _ _ h => h) (Or.inl ⟨by rfl, ?_⟩) (by assumption) ?_
  rotate_left
  · intro w hSw
    try dsimp only at hSw
    go_simp
    all_goals with_reducible rfl
  all_goals skip
  try simp only [Act.put, List.setIfInBounds_toArray, List.set_cons_zero, List.set_cons_succ]
  refine wpAnyH_take (i := 20) (oi := { dst := some 38, op := Op.load 3 (Operand.tmp 37), type := 3, pos := "parse.go:250", after := #[{ on := 19, ground := Ground.data }], guard := none }) (v := ?_) rfl (by kernel_rfl) (by kernel_rfl) (by kernel_rfl) (fun _ _ _ h => h) (Or.inl ⟨by rfl, ?_⟩) (by assumption) ?_
  rotate_left
  · intro w hSw
    try dsimp only at hSw
    go_simp
    all_goals with_reducible rfl
  all_goals skip
  try simp only [Act.put, List.setIfInBounds_toArray, List.set_cons_zero, List.set_cons_succ]
  refine wpAnyH_take (i := 21) (oi := { dst := some 39, op := Op.binOp BinOp.add 3 (Operand.tmp 34) (Operand.tmp 38) 3, type := 3, pos := "parse.go:250", after := #[{ on := 16, ground := Ground.data }, { on := 20, ground := Ground.data }], guard := none }) (v := ?_) rfl (by kernel_rfl) (by kernel_rfl) (by kernel_rfl) (fun _ _ _ h => h) (Or.inl ⟨by rfl, ?_⟩) (by assumption) ?_
  rotate_left
  · intro w hSw
    try dsimp only at hSw
    go_simp
    all_goals with_reducible rfl
  all_goals skip
  try simp only [Act.put, List.setIfInBounds_toArray, List.set_cons_zero, List.set_cons_succ]
  refine wpAnyH_take (i := 22) (oi := { dst := some 40, op := Op.slice 22 (Operand.tmp 26) (some (Operand.tmp 30)) (some (Operand.tmp 39)) none, type := 22, pos := "parse.go:250", after := #[{ on := 8, ground := Ground.data }, { on := 12, ground := Ground.data }, { on := 21, ground := Ground.data }], guard := none }) (v := ?_) rfl (by kernel_rfl) (by kernel_rfl) (by kernel_rfl) (fun _ _ _ h => h) (Or.inl ⟨by rfl, ?_⟩) (by assumption) ?_
  rotate_left
  · intro w hSw
    try dsimp only at hSw
    go_simp
    all_goals with_reducible rfl
  all_goals skip
  try simp only [Act.put, List.setIfInBounds_toArray, List.set_cons_zero, List.set_cons_succ]
  refine wpAnyH_ready (rs := [4, 23]) (by kernel_rfl) (by simp) ?_
  refine AllReadyH.cons (o := { dst := some 22, op := Op.load 49 (Operand.tmp 21), type := 49, pos := "parse.go:250", after := #[{ on := 3, ground := Ground.data }], guard := none }) rfl (fun K hK => ?_) ?_
  · go_simp
    refine hK.out _ _ ?_ (fun hHeld => ?_)
    · first | (refine ⟨?_, ?_, ?_⟩ <;> assumption) | (refine ⟨cell_off ?_ (by decide), cell_off ?_ (by decide), cell_off ?_ (by decide)⟩ <;> assumption) | go_keep
    clear hK K
    try simp only [Act.put, List.setIfInBounds_toArray, List.set_cons_zero, List.set_cons_succ]
    refine wpAnyH_ready (rs := [23]) (by kernel_rfl) (by simp) ?_
    refine AllReadyH.cons (o := { dst := some 41, op := Op.buildSlice 49 1 #[(0, Operand.tmp 40)], type := 49, pos := "parse.go:250", after := #[{ on := 22, ground := Ground.data }], guard := none }) rfl (fun K hK => ?_) ?_
    · go_simp
      refine hK.out _ _ ?_ (fun hHeld => ?_)
      · first | (refine ⟨?_, ?_, ?_⟩ <;> assumption) | (refine ⟨cell_off ?_ (by decide), cell_off ?_ (by decide), cell_off ?_ (by decide)⟩ <;> assumption) | go_keep
      clear hK K
      try simp only [Act.put, List.setIfInBounds_toArray, List.set_cons_zero, List.set_cons_succ]
      refine wpAnyH_ready (rs := [24]) (by kernel_rfl) (by simp) ?_
      refine AllReadyH.cons (o := { dst := some 42, op := Op.call { callee := Callee.builtin Builtin.append, args := #[Operand.tmp 22, Operand.tmp 41], argTypes := #[49, 49] }, type := 49, pos := "parse.go:250", after := #[{ on := 4, ground := Ground.data }, { on := 23, ground := Ground.data }], guard := none }) rfl (fun K hK => ?_) ?_
      · refine step_append_two rfl (.tmp 22) (.tmp 41) 49 rfl (p + 1) 22 i0 (.slice none 0 0) 1 24 Tryz.underlying49 hi hz0 hz1 hz2 rfl (by decide) _ xs.length _ rfl own5 ⟨W.heap.size, 0, none⟩ 1 1 [.slice (if cap = s.at_ then a else Option.map (fun x => x.add s.at_) a) (E - s.at_) (cap - s.at_)] rfl rfl HZ5.out hV1 (by unfold maxLen; omega) (by omega) hbase5 ?_
        intro v5 w5 hown5 hgrow5 hvb5
        have hr5 := HK5.out w5 hgrow5
        have e0 : w5.cell? ⟨p, 0, none⟩ = some (.slice a l.length cap) := hr5.cell 0 rfl
        have e1 : w5.cell? ⟨p, 1, none⟩ = some (.int .i64 (s.at_ : Int)) := hr5.cell 1 rfl
        have e17 : w5.cell? ⟨p, 17, none⟩ = some (.int .i64 (s.size : Int)) := hr5.cell 17 rfl
        have e18 := hr5.cell 18 rfl
        have e19 : w5.cell? ⟨p, 19, none⟩ = some (.int .i64 (s.sum : Int)) := hr5.cell 19 rfl
        have g1 := hr5.fz 1
        have g18 := hr5.fz 18
        have g19 := hr5.fz 19
        have K9 := (show Hid _ from fun w6 => HFIN.out w5 v5 w6 hgrow5 hown5)
        have HR5 := (show Hid _ from hr5)
        obtain ⟨a5, k5, rfl⟩ := own_slice hown5
        clear hown5 hgrow5 hvb5 hr5
        refine hK.out _ _ ?_ (fun hHeld => ?_)
        · first | (refine ⟨?_, ?_, ?_⟩ <;> assumption) | (refine ⟨cell_off ?_ (by decide), cell_off ?_ (by decide), cell_off ?_ (by decide)⟩ <;> assumption) | go_keep
        clear hK K
        try simp only [Act.put, List.setIfInBounds_toArray, List.set_cons_zero, List.set_cons_succ]
        refine wpAnyH_take (i := 25) (oi := { dst := some 43, op := Op.nilCheck (Operand.tmp 18), type := 0, pos := "parse.go:250", after := #[{ on := 0, ground := Ground.data }, { on := 0, ground := Ground.phase }, { on := 1, ground := Ground.phase }, { on := 2, ground := Ground.phase }, { on := 3, ground := Ground.phase }, { on := 4, ground := Ground.phase }, { on := 5, ground := Ground.phase }, { on := 6, ground := Ground.phase }, { on := 7, ground := Ground.phase }, { on := 8, ground := Ground.phase }, { on := 9, ground := Ground.phase }, { on := 10, ground := Ground.phase }, { on := 11, ground := Ground.phase }, { on := 12, ground := Ground.phase }, { on := 13, ground := Ground.phase }, { on := 14, ground := Ground.phase }, { on := 15, ground := Ground.phase }, { on := 16, ground := Ground.phase }, { on := 17, ground := Ground.phase }, { on := 18, ground := Ground.phase }, { on := 19, ground := Ground.phase }, { on := 20, ground := Ground.phase }, { on := 21, ground := Ground.phase }, { on := 22, ground := Ground.phase }, { on := 23, ground := Ground.phase }, { on := 24, ground := Ground.phase }], guard := none }) (v := ?_) rfl (by kernel_rfl) (by kernel_rfl) (by kernel_rfl) (fun _ _ _ h => h) (Or.inl ⟨by rfl, ?_⟩) (by assumption) ?_
        rotate_left
        · intro w hSw
          try dsimp only at hSw
          go_simp
          all_goals with_reducible rfl
        all_goals skip
        try simp only [Act.put, List.setIfInBounds_toArray, List.set_cons_zero, List.set_cons_succ]
        refine wpAnyH_take (i := 26) (oi := { dst := some 44, op := Op.fieldAddr 54 (Operand.tmp 43) 7, type := 0, pos := "parse.go:250", after := #[{ on := 25, ground := Ground.data }, { on := 0, ground := Ground.phase }, { on := 1, ground := Ground.phase }, { on := 2, ground := Ground.phase }, { on := 3, ground := Ground.phase }, { on := 4, ground := Ground.phase }, { on := 5, ground := Ground.phase }, { on := 6, ground := Ground.phase }, { on := 7, ground := Ground.phase }, { on := 8, ground := Ground.phase }, { on := 9, ground := Ground.phase }, { on := 10, ground := Ground.phase }, { on := 11, ground := Ground.phase }, { on := 12, ground := Ground.phase }, { on := 13, ground := Ground.phase }, { on := 14, ground := Ground.phase }, { on := 15, ground := Ground.phase }, { on := 16, ground := Ground.phase }, { on := 17, ground := Ground.phase }, { on := 18, ground := Ground.phase }, { on := 19, ground := Ground.phase }, { on := 20, ground := Ground.phase }, { on := 21, ground := Ground.phase }, { on := 22, ground := Ground.phase }, { on := 23, ground := Ground.phase }, { on := 24, ground := Ground.phase }], guard := none }) (v := ?_) rfl (by kernel_rfl) (by kernel_rfl) (by kernel_rfl) (fun _ _ _ h => h) (Or.inl ⟨by rfl, ?_⟩) (by assumption) ?_
        rotate_left
        · intro w hSw
          try dsimp only at hSw
          go_simp
          all_goals with_reducible rfl
        all_goals skip
        try simp only [Act.put, List.setIfInBounds_toArray, List.set_cons_zero, List.set_cons_succ]
        refine wpAnyH_ready (rs := [27]) (by kernel_rfl) (by simp) ?_
        refine AllReadyH.cons (o := { dst := none, op := Op.store 49 (Operand.tmp 44) (Operand.tmp 42), type := 0, pos := "parse.go:250", after := #[{ on := 26, ground := Ground.data }, { on := 24, ground := Ground.data }, { on := 24, ground := Ground.chain }, { on := 0, ground := Ground.phase }, { on := 1, ground := Ground.phase }, { on := 2, ground := Ground.phase }, { on := 3, ground := Ground.phase }, { on := 4, ground := Ground.phase }, { on := 5, ground := Ground.phase }, { on := 6, ground := Ground.phase }, { on := 7, ground := Ground.phase }, { on := 8, ground := Ground.phase }, { on := 9, ground := Ground.phase }, { on := 10, ground := Ground.phase }, { on := 11, ground := Ground.phase }, { on := 12, ground := Ground.phase }, { on := 13, ground := Ground.phase }, { on := 14, ground := Ground.phase }, { on := 15, ground := Ground.phase }, { on := 16, ground := Ground.phase }, { on := 17, ground := Ground.phase }, { on := 18, ground := Ground.phase }, { on := 19, ground := Ground.phase }, { on := 20, ground := Ground.phase }, { on := 21, ground := Ground.phase }, { on := 22, ground := Ground.phase }, { on := 23, ground := Ground.phase }, { on := 24, ground := Ground.phase }], guard := none }) rfl (fun K hK => ?_) ?_
        · go_simp
          refine hK.out _ _ ?_ (fun hHeld => ?_)
          · first | (refine ⟨?_, ?_, ?_⟩ <;> assumption) | (refine ⟨cell_off ?_ (by decide), cell_off ?_ (by decide), cell_off ?_ (by decide)⟩ <;> assumption) | go_keep
          clear hK K
          try simp only [Act.put, List.setIfInBounds_toArray, List.set_cons_zero, List.set_cons_succ]
          refine wpAnyH_done (by kernel_rfl) ?_ _
          generalize hW6 : w5.setCell ⟨p, 18, none⟩ (.slice a5 (xs.length + 1) k5) = W6
          have hr6 : Rb W6 p (rsOf s (.slice a l.length cap) T hv (.slice a5 (xs.length + 1) k5)) := by rw [← hW6]; exact Rb.of (set_lst HR5.out 18 _) rfl
          have hm6 : Md (· = p) w5 W6 := by rw [← hW6]; exact (Md.refl _ _).setp _ _
          clear hW6 e0 e1 e17 e18 e19 g1 g18 g19
          have e1 : W6.cell? ⟨p, 1, none⟩ = some (.int .i64 (s.at_ : Int)) := hr6.cell 1 rfl
          have e17 : W6.cell? ⟨p, 17, none⟩ = some (.int .i64 (s.size : Int)) := hr6.cell 17 rfl
          have e19 : W6.cell? ⟨p, 19, none⟩ = some (.int .i64 (s.sum : Int)) := hr6.cell 19 rfl
          have g1 := hr6.fz 1
          have g19 := hr6.fz 19
          have H6 := (show Hid _ from And.intro hr6 hm6)
          clear hr6 hm6 hHeld
          generalize (if cap = s.at_ then a else Option.map (fun x => x.add s.at_) a) = A9
          go_wp2
          go_region
          all_goals go_wp2
          all_goals go_region
          all_goals go_wp2
          all_goals go_ret
          all_goals
            refine ⟨rfl, K9.out _ (Rb.of (set_lst (set_lst H6.out.1 1 _) 19 _) ?_) ?_⟩
            · simp [Rs.c, rsOf, takeL, HE.out]
            · first
                | exact (H6.out.2.drew.setp _ _).drew.setp _ _
                | exact (H6.out.2.setp _ _).setp _ _
        exact AllReadyH.nil
      exact AllReadyH.nil
    exact AllReadyH.nil
  refine AllReadyH.cons (o := { dst := some 41, op := Op.buildSlice 49 1 #[(0, Operand.tmp 40)], type := 49, pos := "parse.go:250", after := #[{ on := 22, ground := Ground.data }], guard := none }) rfl (fun K hK => ?_) ?_
  · go_simp
    refine hK.out _ _ ?_ (fun hHeld => ?_)
    · first | (refine ⟨?_, ?_, ?_⟩ <;> assumption) | (refine ⟨cell_off ?_ (by decide), cell_off ?_ (by decide), cell_off ?_ (by decide)⟩ <;> assumption) | go_keep
    clear hK K
    try simp only [Act.put, List.setIfInBounds_toArray, List.set_cons_zero, List.set_cons_succ]
    refine wpAnyH_ready (rs := [4]) (by kernel_rfl) (by simp) ?_
    refine AllReadyH.cons (o := { dst := some 22, op := Op.load 49 (Operand.tmp 21), type := 49, pos := "parse.go:250", after := #[{ on := 3, ground := Ground.data }], guard := none }) rfl (fun K hK => ?_) ?_
    · go_simp
      refine hK.out _ _ ?_ (fun hHeld => ?_)
      · first | (refine ⟨?_, ?_, ?_⟩ <;> assumption) | (refine ⟨cell_off ?_ (by decide), cell_off ?_ (by decide), cell_off ?_ (by decide)⟩ <;> assumption) | go_keep
      clear hK K
      try simp only [Act.put, List.setIfInBounds_toArray, List.set_cons_zero, List.set_cons_succ]
      refine wpAnyH_ready (rs := [24]) (by kernel_rfl) (by simp) ?_
      refine AllReadyH.cons (o := { dst := some 42, op := Op.call { callee := Callee.builtin Builtin.append, args := #[Operand.tmp 22, Operand.tmp 41], argTypes := #[49, 49] }, type := 49, pos := "parse.go:250", after := #[{ on := 4, ground := Ground.data }, { on := 23, ground := Ground.data }], guard := none }) rfl (fun K hK => ?_) ?_
      · refine step_append_two rfl (.tmp 22) (.tmp 41) 49 rfl (p + 1) 22 i0 (.slice none 0 0) 1 24 Tryz.underlying49 hi hz0 hz1 hz2 rfl (by decide) _ xs.length _ rfl own5 ⟨W.heap.size, 0, none⟩ 1 1 [.slice (if cap = s.at_ then a else Option.map (fun x => x.add s.at_) a) (E - s.at_) (cap - s.at_)] rfl rfl HZ5.out hV1 (by unfold maxLen; omega) (by omega) hbase5 ?_
        intro v5 w5 hown5 hgrow5 hvb5
        have hr5 := HK5.out w5 hgrow5
        have e0 : w5.cell? ⟨p, 0, none⟩ = some (.slice a l.length cap) := hr5.cell 0 rfl
        have e1 : w5.cell? ⟨p, 1, none⟩ = some (.int .i64 (s.at_ : Int)) := hr5.cell 1 rfl
        have e17 : w5.cell? ⟨p, 17, none⟩ = some (.int .i64 (s.size : Int)) := hr5.cell 17 rfl
        have e18 := hr5.cell 18 rfl
        have e19 : w5.cell? ⟨p, 19, none⟩ = some (.int .i64 (s.sum : Int)) := hr5.cell 19 rfl
        have g1 := hr5.fz 1
        have g18 := hr5.fz 18
        have g19 := hr5.fz 19
        have K9 := (show Hid _ from fun w6 => HFIN.out w5 v5 w6 hgrow5 hown5)
        have HR5 := (show Hid _ from hr5)
        obtain ⟨a5, k5, rfl⟩ := own_slice hown5
        clear hown5 hgrow5 hvb5 hr5
        refine hK.out _ _ ?_ (fun hHeld => ?_)
        · first | (refine ⟨?_, ?_, ?_⟩ <;> assumption) | (refine ⟨cell_off ?_ (by decide), cell_off ?_ (by decide), cell_off ?_ (by decide)⟩ <;> assumption) | go_keep
        clear hK K
        try simp only [Act.put, List.setIfInBounds_toArray, List.set_cons_zero, List.set_cons_succ]
        refine wpAnyH_take (i := 25) (oi := { dst := some 43, op := Op.nilCheck (Operand.tmp 18), type := 0, pos := "parse.go:250", after := #[{ on := 0, ground := Ground.data }, { on := 0, ground := Ground.phase }, { on := 1, ground := Ground.phase }, { on := 2, ground := Ground.phase }, { on := 3, ground := Ground.phase }, { on := 4, ground := Ground.phase }, { on := 5, ground := Ground.phase }, { on := 6, ground := Ground.phase }, { on := 7, ground := Ground.phase }, { on := 8, ground := Ground.phase }, { on := 9, ground := Ground.phase }, { on := 10, ground := Ground.phase }, { on := 11, ground := Ground.phase }, { on := 12, ground := Ground.phase }, { on := 13, ground := Ground.phase }, { on := 14, ground := Ground.phase }, { on := 15, ground := Ground.phase }, { on := 16, ground := Ground.phase }, { on := 17, ground := Ground.phase }, { on := 18, ground := Ground.phase }, { on := 19, ground := Ground.phase }, { on := 20, ground := Ground.phase }, { on := 21, ground := Ground.phase }, { on := 22, ground := Ground.phase }, { on := 23, ground := Ground.phase }, { on := 24, ground := Ground.phase }], guard := none }) (v := ?_) rfl (by kernel_rfl) (by kernel_rfl) (by kernel_rfl) (fun _ _ _ h => h) (Or.inl ⟨by rfl, ?_⟩) (by assumption) ?_
        rotate_left
        · intro w hSw
          try dsimp only at hSw
          go_simp
          all_goals with_reducible rfl
        all_goals skip
        try simp only [Act.put, List.setIfInBounds_toArray, List.set_cons_zero, List.set_cons_succ]
        refine wpAnyH_take (i := 26) (oi := { dst := some 44, op := Op.fieldAddr 54 (Operand.tmp 43) 7, type := 0, pos := "parse.go:250", after := #[{ on := 25, ground := Ground.data }, { on := 0, ground := Ground.phase }, { on := 1, ground := Ground.phase }, { on := 2, ground := Ground.phase }, { on := 3, ground := Ground.phase }, { on := 4, ground := Ground.phase }, { on := 5, ground := Ground.phase }, { on := 6, ground := Ground.phase }, { on := 7, ground := Ground.phase }, { on := 8, ground := Ground.phase }, { on := 9, ground := Ground.phase }, { on := 10, ground := Ground.phase }, { on := 11, ground := Ground.phase }, { on := 12, ground := Ground.phase }, { on := 13, ground := Ground.phase }, { on := 14, ground := Ground.phase }, { on := 15, ground := Ground.phase }, { on := 16, ground := Ground.phase }, { on := 17, ground := Ground.phase }, { on := 18, ground := Ground.phase }, { on := 19, ground := Ground.phase }, { on := 20, ground := Ground.phase }, { on := 21, ground := Ground.phase }, { on := 22, ground := Ground.phase }, { on := 23, ground := Ground.phase }, { on := 24, ground := Ground.phase }], guard := none }) (v := ?_) rfl (by kernel_rfl) (by kernel_rfl) (by kernel_rfl) (fun _ _ _ h => h) (Or.inl ⟨by rfl, ?_⟩) (by assumption) ?_
        rotate_left
        · intro w hSw
          try dsimp only at hSw
          go_simp
          all_goals with_reducible rfl
        all_goals skip
        try simp only [Act.put, List.setIfInBounds_toArray, List.set_cons_zero, List.set_cons_succ]
        refine wpAnyH_ready (rs := [27]) (by kernel_rfl) (by simp) ?_
        refine AllReadyH.cons (o := { dst := none, op := Op.store 49 (Operand.tmp 44) (Operand.tmp 42), type := 0, pos := "parse.go:250", after := #[{ on := 26, ground := Ground.data }, { on := 24, ground := Ground.data }, { on := 24, ground := Ground.chain }, { on := 0, ground := Ground.phase }, { on := 1, ground := Ground.phase }, { on := 2, ground := Ground.phase }, { on := 3, ground := Ground.phase }, { on := 4, ground := Ground.phase }, { on := 5, ground := Ground.phase }, { on := 6, ground := Ground.phase }, { on := 7, ground := Ground.phase }, { on := 8, ground := Ground.phase }, { on := 9, ground := Ground.phase }, { on := 10, ground := Ground.phase }, { on := 11, ground := Ground.phase }, { on := 12, ground := Ground.phase }, { on := 13, ground := Ground.phase }, { on := 14, ground := Ground.phase }, { on := 15, ground := Ground.phase }, { on := 16, ground := Ground.phase }, { on := 17, ground := Ground.phase }, { on := 18, ground := Ground.phase }, { on := 19, ground := Ground.phase }, { on := 20, ground := Ground.phase }, { on := 21, ground := Ground.phase }, { on := 22, ground := Ground.phase }, { on := 23, ground := Ground.phase }, { on := 24, ground := Ground.phase }], guard := none }) rfl (fun K hK => ?_) ?_
        · go_simp
          refine hK.out _ _ ?_ (fun hHeld => ?_)
          · first | (refine ⟨?_, ?_, ?_⟩ <;> assumption) | (refine ⟨cell_off ?_ (by decide), cell_off ?_ (by decide), cell_off ?_ (by decide)⟩ <;> assumption) | go_keep
          clear hK K
          try simp only [Act.put, List.setIfInBounds_toArray, List.set_cons_zero, List.set_cons_succ]
          refine wpAnyH_done (by kernel_rfl) ?_ _
          generalize hW6 : w5.setCell ⟨p, 18, none⟩ (.slice a5 (xs.length + 1) k5) = W6
          have hr6 : Rb W6 p (rsOf s (.slice a l.length cap) T hv (.slice a5 (xs.length + 1) k5)) := by rw [← hW6]; exact Rb.of (set_lst HR5.out 18 _) rfl
          have hm6 : Md (· = p) w5 W6 := by rw [← hW6]; exact (Md.refl _ _).setp _ _
          clear hW6 e0 e1 e17 e18 e19 g1 g18 g19
          have e1 : W6.cell? ⟨p, 1, none⟩ = some (.int .i64 (s.at_ : Int)) := hr6.cell 1 rfl
          have e17 : W6.cell? ⟨p, 17, none⟩ = some (.int .i64 (s.size : Int)) := hr6.cell 17 rfl
          have e19 : W6.cell? ⟨p, 19, none⟩ = some (.int .i64 (s.sum : Int)) := hr6.cell 19 rfl
          have g1 := hr6.fz 1
          have g19 := hr6.fz 19
          have H6 := (show Hid _ from And.intro hr6 hm6)
          clear hr6 hm6 hHeld
          generalize (if cap = s.at_ then a else Option.map (fun x => x.add s.at_) a) = A9
          go_wp2
          go_region
          all_goals go_wp2
          all_goals go_region
          all_goals go_wp2
          all_goals go_ret
          all_goals
            refine ⟨rfl, K9.out _ (Rb.of (set_lst (set_lst H6.out.1 1 _) 19 _) ?_) ?_⟩
            · simp [Rs.c, rsOf, takeL, HE.out]
            · first
                | exact (H6.out.2.drew.setp _ _).drew.setp _ _
                | exact (H6.out.2.setp _ _).setp _ _
        exact AllReadyH.nil
      exact AllReadyH.nil
    exact AllReadyH.nil
  exact AllReadyH.nil
end Go.Proofs.YtmodmeabjhaklaaGreatDoor
