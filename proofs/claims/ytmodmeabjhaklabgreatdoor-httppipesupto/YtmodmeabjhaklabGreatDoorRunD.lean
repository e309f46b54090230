/-
  The bytes of a body or a chunk (reader.take).
-/
import Derived.Test.YtmodmeabjhaklabGreatDoorRunC
import Derived.Laws.AppendOwnNone
import Derived.Lib.AppendZeros
namespace Go.Proofs.YtmodmeabjhaklabGreatDoor
open Go.RowKit

theorem cell_off {w : World} {p i j : Nat} {v u : Value} (h : w.cell? ⟨p, j, none⟩ = some u) (hij : i ≠ j) : (w.setCell ⟨p, i, none⟩ v).cell? ⟨p, j, none⟩ = some u :=
  (World.cell?_setCell_other w _ _ v (by intro e; simp only [Addr.mk.injEq] at e; omega)).trans h
set_option maxRecDepth 20000 in
set_option maxHeartbeats 1000000 in
theorem take_no {w0 w : World} {p : Nat} {l : List UInt8} {s : St} {a : Option Addr} {cap : Nat} {T : Tl} {hv pv : Value} {xs : List Sl} (h : Rd w0 w p l s a cap T hv pv xs) (hlt : l.length - s.at_ < s.size) :
    Calls Tryz.prog 36 #[.pointer (some ⟨p, 0, none⟩)] w fun e w' => e = .returned (.bool false) ∧ Rd w0 w' p l s a cap T hv pv xs ∧ Below p w w' := by
  have c0 : w.cell? ⟨p, 0, none⟩ = some (.slice a l.length cap) := h.rb.cell 0 rfl
  have c1 : w.cell? ⟨p, 1, none⟩ = some (.int .i64 (s.at_ : Int)) := h.rb.cell 1 rfl
  have c17 : w.cell? ⟨p, 17, none⟩ = some (.int .i64 (s.size : Int)) := h.rb.cell 17 rfl
  have ha1 := h.inv.at_
  have hl9 := h.inv.len
  have hs9 := h.inv.size
  have H := (show Hid _ from h)
  have hlti : (l.length : Int) - (s.at_ : Int) < (s.size : Int) := by omega
  clear h hlt
  go_enter Tryz.func36, Tryz.ntmps36
  go_wp2
  go_quiet (fail)
  go_wp2
  go_ret
  exact ⟨rfl, H.out.below (drewN_below w _), (drewN_below w _).mono (Nat.le_of_lt H.out.rb.lt)⟩
set_option maxRecDepth 20000 in
set_option maxHeartbeats 2000000 in
theorem take_yes {w0 w : World} {p : Nat} {l : List UInt8} {s : St} {a : Option Addr} {cap : Nat} {T : Tl} {hv pv : Value} {xs : List Sl} (h : Rd w0 w p l s a cap T hv pv xs) (hlt : ¬ l.length - s.at_ < s.size) (hinv : Inv l (takeL l s)) :
    Calls Tryz.prog 36 #[.pointer (some ⟨p, 0, none⟩)] w fun e w' => e = .returned (.bool true) ∧ (∃ pv' xs', Rd w0 w' p l (takeL l s) a cap T hv pv' xs') ∧ Below p w w' := by
  have c0 : w.cell? ⟨p, 0, none⟩ = some (.slice a l.length cap) := h.rb.cell 0 rfl
  have c1 : w.cell? ⟨p, 1, none⟩ = some (.int .i64 (s.at_ : Int)) := h.rb.cell 1 rfl
  have c17 : w.cell? ⟨p, 17, none⟩ = some (.int .i64 (s.size : Int)) := h.rb.cell 17 rfl
  have ha1 := h.inv.at_
  have hl9 := h.inv.len
  have hs9 := h.inv.size
  have hsum := h.inv.sum
  have hcap := h.cap
  have H := (show Hid _ from h)
  have hlti : ¬ (l.length : Int) - (s.at_ : Int) < (s.size : Int) := by omega
  clear hlt
  go_enter Tryz.func36, Tryz.ntmps36
  go_wp2
  go_quiet (fail)
  generalize hW : w.drewN nq = W
  have hW1 : Below w.heap.size w W := by rw [← hW]; exact drewN_below w _
  have hr := h.below hW1
  clear c0 c1 c17 h hW
  have c0 : W.cell? ⟨p, 0, none⟩ = some (.slice a l.length cap) := hr.rb.cell 0 rfl
  have c1 : W.cell? ⟨p, 1, none⟩ = some (.int .i64 (s.at_ : Int)) := hr.rb.cell 1 rfl
  have c17 : W.cell? ⟨p, 17, none⟩ = some (.int .i64 (s.size : Int)) := hr.rb.cell 17 rfl
  have c18 : W.cell? ⟨p, 18, none⟩ = some pv := hr.rb.cell 18 rfl
  have f18 := hr.rb.fz 18
  obtain ⟨pa, pc, hpe⟩ := own_slice hr.ps
  obtain ⟨i0, hi, hz0, hz1, hz2⟩ := info_parts info22
  have hpl := hr.rb.lt
  have hxl : xs.length ≤ 1000000000 := by
    have h1 := hr.inv.pcs
    have h2 : s.pcs.length = xs.length := by rw [← hr.pl, List.length_map]
    omega
  have hsz : (takeL l s).pcs = s.pcs ++ [(l.drop s.at_).take s.size] := rfl
  have htk : ((l.drop s.at_).take s.size).length = s.size := by rw [List.length_take, List.length_drop]; omega
  obtain ⟨E, hE⟩ : ∃ E : Nat, E = s.at_ + s.size := ⟨_, rfl⟩
  have hEs : E - s.at_ = s.size := by omega
  obtain ⟨V, hV⟩ : ∃ V : Value, V = .slice (fromA a cap s.at_) (E - s.at_) (cap - s.at_) := ⟨_, rfl⟩
  obtain ⟨O, hO⟩ : ∃ O : Obj, O = .cells #[V] 22 := ⟨_, rfl⟩
  have hbX : Below W.heap.size W (W.alloc O).drew := ((Below.refl _ _).alloc (Nat.le_refl _) _).drew
  have hrX := hr.below hbX
  have own5 := hrX.ps
  have hbase5 : p + 1 ≤ ((W.alloc O).drew).heap.size := Nat.le_trans hpl hbX.size
  have HZ5 := (show Hid (∀ j u, [V][j]? = some u → ((W.alloc O).drew).cell? ((⟨W.heap.size, 0, none⟩ : Addr).add j) = some u) from by
    rw [hO]
    exact cell_one_new W V 22)
  have hV1 : ∀ u ∈ [V], u.oneCell' = true := by rw [hV]; exact one_one _ rfl
  have HK5 := (show Hid (∀ w5, ((W.alloc O).drew).grownBy w5 pv.ownBlock → Rb w5 p (rsOf s (.slice a l.length cap) T hv pv)) from fun w5 hg => hrX.rb.keep (Md.ofGrown hg) (fun hh => own_ne hrX.ps hrX.rb (by decide) p hh rfl))
  have HFIN := (show Hid (∀ w5 v5 w6, ((W.alloc O).drew).grownBy w5 pv.ownBlock → w5.ownsRow (p + 1) 22 1 v5 (xs.length + 1) (xs.map Sl.v ++ [V]) → Rb w6 p (rsOf (takeL l s) (.slice a l.length cap) T hv v5) → Md (· = p) w5 w6 → (∃ pv' xs', Rd w0 w6 p l (takeL l s) a cap T hv pv' xs') ∧ Below p w w6) from by
    intro w5 v5 w6 hg ho hr6 hm6
    have hr5 := HK5.out w5 hg
    have hb5 : Below p W w6 := ((hbX.mono (Nat.le_of_lt hpl)).grown hg (Nat.le_of_lt (Nat.lt_of_lt_of_le hpl hbX.size)) (fun k hk => by have := (hrX.ps.lt k hk).1; omega)).trans (hm6.toBl hr5.lt)
    refine ⟨⟨v5, xs ++ [⟨fromA a cap s.at_, (l.drop s.at_).take s.size, cap - s.at_⟩], hr6, hr.an, hr.cap, hr.by_, hr.ab, hr.lo, hr.bl.trans (hb5.mono hr.lo), ?_, ?_, ?_, ?_, hr.mx, hr.er, hinv⟩, (hW1.mono (Nat.le_of_lt H.out.rb.lt)).trans hb5⟩
    · exact own_md (own_md hrX.hs (Md.ofGrown hg) (fun j hj hh => own_own hrX.hs hrX.ps (by decide) j hj hh)) hm6 (fun j hj => own_ne hrX.hs hrX.rb (by decide) j hj)
    · have e2 : (xs ++ [(⟨fromA a cap s.at_, (l.drop s.at_).take s.size, cap - s.at_⟩ : Sl)]).map Sl.v = xs.map Sl.v ++ [V] := by
        rw [List.map_append, hV, hEs]
        simp [Sl.v, htk]
      rw [e2, List.length_append]
      exact own_md ho hm6 (fun j hj => own_ne ho hr5 (by decide) j hj)
    · rw [hsz, List.map_append, hr.pl]
      rfl
    · intro x hx
      rcases List.mem_append.1 hx with hx | hx
      · exact hr.pb x hx
      · simp only [List.mem_singleton] at hx
        subst hx
        refine ⟨bytes_take (bytes_from hr.by_ hr.cap) _, fun hn => ?_⟩
        have han := hr.an
        simp only at hn ⊢
        unfold fromA at hn
        split at hn
        · omega
        · have : a = none := by simpa using hn
          have := han this
          omega)
  rw [hpe] at c18 own5 HK5 HFIN
  have HX := (show Hid _ from hr)
  clear hr hrX hinv hsz htk
  have hk0 : (0 : Int) ≤ (s.at_ : Int) := by omega
  have hwr : IntKind.i64.wrap ((s.at_ : Int) + (s.size : Int)) = (E : Int) := by
    simp [IntKind.wrap, IntKind.bits, IntKind.signed]
    omega
  have hk2 : (E : Int) ≤ (cap : Int) := by omega
  have hk3 : (0 : Int) ≤ (E : Int) := by omega
  have hk4 : s.at_ ≤ E := by omega
  have hE9 : E ≤ 1000000000 := by omega
  have HE : Hid (E = s.at_ + s.size) := hE
  clear hE hEs
  unfold fromA at hV
  subst hV hO
  go_wp2_with fail
  refine wp_region_held_drew (S := fun w' => w'.cell? ⟨p, 0, none⟩ = some (.slice a l.length cap) ∧ w'.cell? ⟨p, 1, none⟩ = some (.int .i64 (s.at_ : Int)) ∧ w'.cell? ⟨p, 17, none⟩ = some (.int .i64 (s.size : Int))) (by kernel_rfl) ?_ (fun hHeld => ?_)
  · first | (refine ⟨?_, ?_, ?_⟩ <;> assumption) | (refine ⟨cell_off ?_ (by decide), cell_off ?_ (by decide), cell_off ?_ (by decide)⟩ <;> assumption) | go_keep
  refine wpAnyH_take (i := 0) (oi := { dst := some 18, op := Op.move (Operand.tmp 0), type := 44, pos := "parse.go:250", after := #[], guard := none }) (v := ?_) rfl (by kernel_rfl) (by kernel_rfl) (by kernel_rfl) (fun _ _ _ h => h) (Or.inl ⟨by rfl, ?_⟩) (by assumption) ?_
  rotate_left
  · intro w hSw
    try dsimp only at hSw
    go_simp
    all_goals with_reducible rfl
  all_goals skip
  try simp only [Act.put, List.setIfInBounds_toArray, List.set_cons_zero, List.set_cons_succ]
  refine wpAnyH_take (i := 1) (oi := { dst := some 19, op := Op.move (Operand.tmp 0), type := 44, pos := "parse.go:250", after := #[], guard := none }) (v := ?_) rfl (by kernel_rfl) (by kernel_rfl) (by kernel_rfl) (fun _ _ _ h => h) (Or.inl ⟨by rfl, ?_⟩) (by assumption) ?_
  rotate_left
  · intro w hSw
    try dsimp only at hSw
    go_simp
    all_goals with_reducible rfl
  all_goals skip
  try simp only [Act.put, List.setIfInBounds_toArray, List.set_cons_zero, List.set_cons_succ]
  refine wpAnyH_take (i := 2) (oi := { dst := some 20, op := Op.nilCheck (Operand.tmp 19), type := 0, pos := "parse.go:250", after := #[{ on := 1, ground := Ground.data }], guard := none }) (v := ?_) rfl (by kernel_rfl) (by kernel_rfl) (by kernel_rfl) (fun _ _ _ h => h) (Or.inl ⟨by rfl, ?_⟩) (by assumption) ?_
  rotate_left
  · intro w hSw
    try dsimp only at hSw
    go_simp
    all_goals with_reducible rfl
  all_goals skip
  try simp only [Act.put, List.setIfInBounds_toArray, List.set_cons_zero, List.set_cons_succ]
  refine wpAnyH_take (i := 3) (oi := { dst := some 21, op := Op.fieldAddr 47 (Operand.tmp 20) 7, type := 0, pos := "parse.go:250", after := #[{ on := 2, ground := Ground.data }], guard := none }) (v := ?_) rfl (by kernel_rfl) (by kernel_rfl) (by kernel_rfl) (fun _ _ _ h => h) (Or.inl ⟨by rfl, ?_⟩) (by assumption) ?_
  rotate_left
  · intro w hSw
    try dsimp only at hSw
    go_simp
    all_goals with_reducible rfl
  all_goals skip
  try simp only [Act.put, List.setIfInBounds_toArray, List.set_cons_zero, List.set_cons_succ]
  refine wpAnyH_take (i := 5) (oi := { dst := some 23, op := Op.move (Operand.tmp 0), type := 44, pos := "parse.go:250", after := #[], guard := none }) (v := ?_) rfl (by kernel_rfl) (by kernel_rfl) (by kernel_rfl) (fun _ _ _ h => h) (Or.inl ⟨by rfl, ?_⟩) (by assumption) ?_
  rotate_left
  · intro w hSw
    try dsimp only at hSw
    go_simp
    all_goals with_reducible rfl
  all_goals skip
  try simp only [Act.put, List.setIfInBounds_toArray, List.set_cons_zero, List.set_cons_succ]
  refine wpAnyH_take (i := 6) (oi := { dst := some 24, op := Op.nilCheck (Operand.tmp 23), type := 0, pos := "parse.go:250", after := #[{ on := 5, ground := Ground.data }], guard := none }) (v := ?_) rfl (by kernel_rfl) (by kernel_rfl) (by kernel_rfl) (fun _ _ _ h => h) (Or.inl ⟨by rfl, ?_⟩) (by assumption) ?_
  rotate_left
  · intro w hSw
    try dsimp only at hSw
    go_simp
    all_goals with_reducible rfl
  all_goals skip
  try simp only [Act.put, List.setIfInBounds_toArray, List.set_cons_zero, List.set_cons_succ]
  refine wpAnyH_take (i := 7) (oi := { dst := some 25, op := Op.fieldAddr 47 (Operand.tmp 24) 0, type := 0, pos := "parse.go:250", after := #[{ on := 6, ground := Ground.data }], guard := none }) (v := ?_) rfl (by kernel_rfl) (by kernel_rfl) (by kernel_rfl) (fun _ _ _ h => h) (Or.inl ⟨by rfl, ?_⟩) (by assumption) ?_
  rotate_left
  · intro w hSw
    try dsimp only at hSw
    go_simp
    all_goals with_reducible rfl
  all_goals skip
  try simp only [Act.put, List.setIfInBounds_toArray, List.set_cons_zero, List.set_cons_succ]
  refine wpAnyH_take (i := 8) (oi := { dst := some 26, op := Op.load 22 (Operand.tmp 25), type := 22, pos := "parse.go:250", after := #[{ on := 7, ground := Ground.data }], guard := none }) (v := ?_) rfl (by kernel_rfl) (by kernel_rfl) (by kernel_rfl) (fun _ _ _ h => h) (Or.inl ⟨by rfl, ?_⟩) (by assumption) ?_
  rotate_left
  · intro w hSw
    try dsimp only at hSw
    go_simp
    all_goals with_reducible rfl
  all_goals skip
  try simp only [Act.put, List.setIfInBounds_toArray, List.set_cons_zero, List.set_cons_succ]
  refine wpAnyH_take (i := 9) (oi := { dst := some 27, op := Op.move (Operand.tmp 0), type := 44, pos := "parse.go:250", after := #[], guard := none }) (v := ?_) rfl (by kernel_rfl) (by kernel_rfl) (by kernel_rfl) (fun _ _ _ h => h) (Or.inl ⟨by rfl, ?_⟩) (by assumption) ?_
  rotate_left
  · intro w hSw
    try dsimp only at hSw
    go_simp
    all_goals with_reducible rfl
  all_goals skip
  try simp only [Act.put, List.setIfInBounds_toArray, List.set_cons_zero, List.set_cons_succ]
  refine wpAnyH_take (i := 10) (oi := { dst := some 28, op := Op.nilCheck (Operand.tmp 27), type := 0, pos := "parse.go:250", after := #[{ on := 9, ground := Ground.data }], guard := none }) (v := ?_) rfl (by kernel_rfl) (by kernel_rfl) (by kernel_rfl) (fun _ _ _ h => h) (Or.inl ⟨by rfl, ?_⟩) (by assumption) ?_
  rotate_left
  · intro w hSw
    try dsimp only at hSw
    go_simp
    all_goals with_reducible rfl
  all_goals skip
  try simp only [Act.put, List.setIfInBounds_toArray, List.set_cons_zero, List.set_cons_succ]
  refine wpAnyH_take (i := 11) (oi := { dst := some 29, op := Op.fieldAddr 47 (Operand.tmp 28) 1, type := 0, pos := "parse.go:250", after := #[{ on := 10, ground := Ground.data }], guard := none }) (v := ?_) rfl (by kernel_rfl) (by kernel_rfl) (by kernel_rfl) (fun _ _ _ h => h) (Or.inl ⟨by rfl, ?_⟩) (by assumption) ?_
  rotate_left
  · intro w hSw
    try dsimp only at hSw
    go_simp
    all_goals with_reducible rfl
  all_goals skip
  try simp only [Act.put, List.setIfInBounds_toArray, List.set_cons_zero, List.set_cons_succ]
  refine wpAnyH_take (i := 12) (oi := { dst := some 30, op := Op.load 3 (Operand.tmp 29), type := 3, pos := "parse.go:250", after := #[{ on := 11, ground := Ground.data }], guard := none }) (v := ?_) rfl (by kernel_rfl) (by kernel_rfl) (by kernel_rfl) (fun _ _ _ h => h) (Or.inl ⟨by rfl, ?_⟩) (by assumption) ?_
  rotate_left
  · intro w hSw
    try dsimp only at hSw
    go_simp
    all_goals with_reducible rfl
  all_goals skip
  try simp only [Act.put, List.setIfInBounds_toArray, List.set_cons_zero, List.set_cons_succ]
  refine wpAnyH_take (i := 13) (oi := { dst := some 31, op := Op.move (Operand.tmp 0), type := 44, pos := "parse.go:250", after := #[], guard := none }) (v := ?_) rfl (by kernel_rfl) (by kernel_rfl) (by kernel_rfl) (fun _ _ _ h => h) (Or.inl ⟨by rfl, ?_⟩) (by assumption) ?_
  rotate_left
  · intro w hSw
    try dsimp only at hSw
    go_simp
    all_goals with_reducible rfl
  all_goals skip
  try simp only [Act.put, List.setIfInBounds_toArray, List.set_cons_zero, List.set_cons_succ]
  refine wpAnyH_take (i := 14) (oi := { dst := some 32, op := Op.nilCheck (Operand.tmp 31), type := 0, pos := "parse.go:250", after := #[{ on := 13, ground := Ground.data }], guard := none }) (v := ?_) rfl (by kernel_rfl) (by kernel_rfl) (by kernel_rfl) (fun _ _ _ h => h) (Or.inl ⟨by rfl, ?_⟩) (by assumption) ?_
  rotate_left
  · intro w hSw
    try dsimp only at hSw
    go_simp
    all_goals with_reducible rfl
  all_goals skip
  try simp only [Act.put, List.setIfInBounds_toArray, List.set_cons_zero, List.set_cons_succ]
  refine wpAnyH_take (i := 15) (oi := { dst := some 33, op := Op.fieldAddr 47 (Operand.tmp 32) 1, type := 0, pos := "parse.go:250", after := #[{ on := 14, ground := Ground.data }], guard := none }) (v := ?_) rfl (by kernel_rfl) (by kernel_rfl) (by kernel_rfl) (fun _ _ _ h => h) (Or.inl ⟨by rfl, ?_⟩) (by assumption) ?_
  rotate_left
  · intro w hSw
    try dsimp only at hSw
    go_simp
    all_goals with_reducible rfl
  all_goals skip
  try simp only [Act.put, List.setIfInBounds_toArray, List.set_cons_zero, List.set_cons_succ]
  refine wpAnyH_take (i := 16) (oi := { dst := some 34, op := Op.load 3 (Operand.tmp 33), type := 3, pos := "parse.go:250", after := #[{ on := 15, ground := Ground.data }], guard := none }) (v := ?_) rfl (by kernel_rfl) (by kernel_rfl) (by kernel_rfl) (fun _ _ _ h => h) (Or.inl ⟨by rfl, ?_⟩) (by assumption) ?_
  rotate_left
  · intro w hSw
    try dsimp only at hSw
    go_simp
    all_goals with_reducible rfl
  all_goals skip
  try simp only [Act.put, List.setIfInBounds_toArray, List.set_cons_zero, List.set_cons_succ]
  refine wpAnyH_take (i := 17) (oi := { dst := some 35, op := Op.move (Operand.tmp 0), type := 44, pos := "parse.go:250", after := #[], guard := none }) (v := ?_) rfl (by kernel_rfl) (by kernel_rfl) (by kernel_rfl) (fun _ _ _ h => h) (Or.inl ⟨by rfl, ?_⟩) (by assumption) ?_
  rotate_left
  · intro w hSw
    try dsimp only at hSw
    go_simp
    all_goals with_reducible rfl
  all_goals skip
  try simp only [Act.put, List.setIfInBounds_toArray, List.set_cons_zero, List.set_cons_succ]
  refine wpAnyH_take (i := 18) (oi := { dst := some 36, op := Op.nilCheck (Operand.tmp 35), type := 0, pos := "parse.go:250", after := #[{ on := 17, ground := Ground.data }], guard := none }) (v := ?_) rfl (by kernel_rfl) (by kernel_rfl) (by kernel_rfl) (fun _ _ _ h => h) (Or.inl ⟨by rfl, ?_⟩) (by assumption) ?_
  rotate_left
  · intro w hSw
    try dsimp only at hSw
    go_simp
    all_goals with_reducible rfl
  all_goals skip
  try simp only [Act.put, List.setIfInBounds_toArray, List.set_cons_zero, List.set_cons_succ]
  refine wpAnyH_take (i := 19) (oi := { dst := some 37, op := Op.fieldAddr 47 (Operand.tmp 36) 6, type := 0, pos := "parse.go:250", after := #[{ on := 18, ground := Ground.data }], guard := none }) (v := ?_) rfl (by kernel_rfl) (by kernel_rfl) (by kernel_rfl) (fun _ _ _ h => h) (Or.inl ⟨by rfl, ?_⟩) (by assumption) ?_
  rotate_left
  · intro w hSw
    try dsimp only at hSw
    go_simp
    all_goals with_reducible rfl
  all_goals skip
  try simp only [Act.put, List.setIfInBounds_toArray, List.set_cons_zero, List.set_cons_succ]
  refine wpAnyH_take (i := 20) (oi := { dst := some 38, op := Op.load 3 (Operand.tmp 37), type := 3, pos := "parse.go:250", after := #[{ on := 19, ground := Ground.data }], guard := none }) (v := ?_) rfl (by kernel_rfl) (by kernel_rfl) (by kernel_rfl) (fun _ _ _ h => h) (Or.inl ⟨by rfl, ?_⟩) (by assumption) ?_
  rotate_left
  · intro w hSw
    try dsimp only at hSw
    go_simp
    all_goals with_reducible rfl
  all_goals skip
  try simp only [Act.put, List.setIfInBounds_toArray, List.set_cons_zero, List.set_cons_succ]
  refine wpAnyH_take (i := 21) (oi := { dst := some 39, op := Op.binOp BinOp.add 3 (Operand.tmp 34) (Operand.tmp 38) 3, type := 3, pos := "parse.go:250", after := #[{ on := 16, ground := Ground.data }, { on := 20, ground := Ground.data }], guard := none }) (v := ?_) rfl (by kernel_rfl) (by kernel_rfl) (by kernel_rfl) (fun _ _ _ h => h) (Or.inl ⟨by rfl, ?_⟩) (by assumption) ?_
  rotate_left
  · intro w hSw
    try dsimp only at hSw
    go_simp
    all_goals with_reducible rfl
  all_goals skip
  try simp only [Act.put, List.setIfInBounds_toArray, List.set_cons_zero, List.set_cons_succ]
  refine wpAnyH_take (i := 22) (oi := { dst := some 40, op := Op.slice 22 (Operand.tmp 26) (some (Operand.tmp 30)) (some (Operand.tmp 39)) none, type := 22, pos := "parse.go:250", after := #[{ on := 8, ground := Ground.data }, { on := 12, ground := Ground.data }, { on := 21, ground := Ground.data }], guard := none }) (v := ?_) rfl (by kernel_rfl) (by kernel_rfl) (by kernel_rfl) (fun _ _ _ h => h) (Or.inl ⟨by rfl, ?_⟩) (by assumption) ?_
  rotate_left
  · intro w hSw
    try dsimp only at hSw
    go_simp
    all_goals with_reducible rfl
  all_goals skip
  try simp only [Act.put, List.setIfInBounds_toArray, List.set_cons_zero, List.set_cons_succ]
  refine wpAnyH_ready (rs := [4, 23]) (by kernel_rfl) (by simp) ?_
  refine AllReadyH.cons (o := { dst := some 22, op := Op.load 45 (Operand.tmp 21), type := 45, pos := "parse.go:250", after := #[{ on := 3, ground := Ground.data }], guard := none }) rfl (fun K hK => ?_) ?_
  · go_simp
    refine hK.out _ _ ?_ (fun hHeld => ?_)
    · first | (refine ⟨?_, ?_, ?_⟩ <;> assumption) | (refine ⟨cell_off ?_ (by decide), cell_off ?_ (by decide), cell_off ?_ (by decide)⟩ <;> assumption) | go_keep
    clear hK K
    try simp only [Act.put, List.setIfInBounds_toArray, List.set_cons_zero, List.set_cons_succ]
    refine wpAnyH_ready (rs := [23]) (by kernel_rfl) (by simp) ?_
    refine AllReadyH.cons (o := { dst := some 41, op := Op.buildSlice 45 1 #[(0, Operand.tmp 40)], type := 45, pos := "parse.go:250", after := #[{ on := 22, ground := Ground.data }], guard := none }) rfl (fun K hK => ?_) ?_
    · go_simp
      refine hK.out _ _ ?_ (fun hHeld => ?_)
      · first | (refine ⟨?_, ?_, ?_⟩ <;> assumption) | (refine ⟨cell_off ?_ (by decide), cell_off ?_ (by decide), cell_off ?_ (by decide)⟩ <;> assumption) | go_keep
      clear hK K
      try simp only [Act.put, List.setIfInBounds_toArray, List.set_cons_zero, List.set_cons_succ]
      refine wpAnyH_ready (rs := [24]) (by kernel_rfl) (by simp) ?_
      refine AllReadyH.cons (o := { dst := some 42, op := Op.call { callee := Callee.builtin Builtin.append, args := #[Operand.tmp 22, Operand.tmp 41], argTypes := #[45, 45] }, type := 45, pos := "parse.go:250", after := #[{ on := 4, ground := Ground.data }, { on := 23, ground := Ground.data }], guard := none }) rfl (fun K hK => ?_) ?_
      · refine step_append_two rfl (.tmp 22) (.tmp 41) 45 rfl (p + 1) 22 i0 (.slice none 0 0) 1 24 Tryz.underlying45 hi hz0 hz1 hz2 rfl (by decide) _ xs.length _ rfl own5 ⟨W.heap.size, 0, none⟩ 1 1 [.slice (if cap = s.at_ then a else Option.map (fun x => x.add s.at_) a) (E - s.at_) (cap - s.at_)] rfl rfl HZ5.out hV1 (by unfold maxLen; omega) (by omega) hbase5 ?_
        intro v5 w5 hown5 hgrow5 hvb5
        have hr5 := HK5.out w5 hgrow5
        have e0 : w5.cell? ⟨p, 0, none⟩ = some (.slice a l.length cap) := hr5.cell 0 rfl
        have e1 : w5.cell? ⟨p, 1, none⟩ = some (.int .i64 (s.at_ : Int)) := hr5.cell 1 rfl
        have e17 : w5.cell? ⟨p, 17, none⟩ = some (.int .i64 (s.size : Int)) := hr5.cell 17 rfl
        have e18 := hr5.cell 18 rfl
        have e19 : w5.cell? ⟨p, 19, none⟩ = some (.int .i64 (s.sum : Int)) := hr5.cell 19 rfl
        have g1 := hr5.fz 1
        have g18 := hr5.fz 18
        have g19 := hr5.fz 19
        have K9 := (show Hid _ from fun w6 => HFIN.out w5 v5 w6 hgrow5 hown5)
        have HR5 := (show Hid _ from hr5)
        obtain ⟨a5, k5, rfl⟩ := own_slice hown5
        clear hown5 hgrow5 hvb5 hr5
        refine hK.out _ _ ?_ (fun hHeld => ?_)
        · first | (refine ⟨?_, ?_, ?_⟩ <;> assumption) | (refine ⟨cell_off ?_ (by decide), cell_off ?_ (by decide), cell_off ?_ (by decide)⟩ <;> assumption) | go_keep
        clear hK K
        try simp only [Act.put, List.setIfInBounds_toArray, List.set_cons_zero, List.set_cons_succ]
        refine wpAnyH_take (i := 25) (oi := { dst := some 43, op := Op.nilCheck (Operand.tmp 18), type := 0, pos := "parse.go:250", after := #[{ on := 0, ground := Ground.data }, { on := 0, ground := Ground.phase }, { on := 1, ground := Ground.phase }, { on := 2, ground := Ground.phase }, { on := 3, ground := Ground.phase }, { on := 4, ground := Ground.phase }, { on := 5, ground := Ground.phase }, { on := 6, ground := Ground.phase }, { on := 7, ground := Ground.phase }, { on := 8, ground := Ground.phase }, { on := 9, ground := Ground.phase }, { on := 10, ground := Ground.phase }, { on := 11, ground := Ground.phase }, { on := 12, ground := Ground.phase }, { on := 13, ground := Ground.phase }, { on := 14, ground := Ground.phase }, { on := 15, ground := Ground.phase }, { on := 16, ground := Ground.phase }, { on := 17, ground := Ground.phase }, { on := 18, ground := Ground.phase }, { on := 19, ground := Ground.phase }, { on := 20, ground := Ground.phase }, { on := 21, ground := Ground.phase }, { on := 22, ground := Ground.phase }, { on := 23, ground := Ground.phase }, { on := 24, ground := Ground.phase }], guard := none }) (v := ?_) rfl (by kernel_rfl) (by kernel_rfl) (by kernel_rfl) (fun _ _ _ h => h) (Or.inl ⟨by rfl, ?_⟩) (by assumption) ?_
        rotate_left
        · intro w hSw
          try dsimp only at hSw
          go_simp
          all_goals with_reducible rfl
        all_goals skip
        try simp only [Act.put, List.setIfInBounds_toArray, List.set_cons_zero, List.set_cons_succ]
        refine wpAnyH_take (i := 26) (oi := { dst := some 44, op := Op.fieldAddr 47 (Operand.tmp 43) 7, type := 0, pos := "parse.go:250", after := #[{ on := 25, ground := Ground.data }, { on := 0, ground := Ground.phase }, { on := 1, ground := Ground.phase }, { on := 2, ground := Ground.phase }, { on := 3, ground := Ground.phase }, { on := 4, ground := Ground.phase }, { on := 5, ground := Ground.phase }, { on := 6, ground := Ground.phase }, { on := 7, ground := Ground.phase }, { on := 8, ground := Ground.phase }, { on := 9, ground := Ground.phase }, { on := 10, ground := Ground.phase }, { on := 11, ground := Ground.phase }, { on := 12, ground := Ground.phase }, { on := 13, ground := Ground.phase }, { on := 14, ground := Ground.phase }, { on := 15, ground := Ground.phase }, { on := 16, ground := Ground.phase }, { on := 17, ground := Ground.phase }, { on := 18, ground := Ground.phase }, { on := 19, ground := Ground.phase }, { on := 20, ground := Ground.phase }, { on := 21, ground := Ground.phase }, { on := 22, ground := Ground.phase }, { on := 23, ground := Ground.phase }, { on := 24, ground := Ground.phase }], guard := none }) (v := ?_) rfl (by kernel_rfl) (by kernel_rfl) (by kernel_rfl) (fun _ _ _ h => h) (Or.inl ⟨by rfl, ?_⟩) (by assumption) ?_
        rotate_left
        · intro w hSw
          try dsimp only at hSw
          go_simp
          all_goals with_reducible rfl
        all_goals skip
        try simp only [Act.put, List.setIfInBounds_toArray, List.set_cons_zero, List.set_cons_succ]
        refine wpAnyH_ready (rs := [27]) (by kernel_rfl) (by simp) ?_
        refine AllReadyH.cons (o := { dst := none, op := Op.store 45 (Operand.tmp 44) (Operand.tmp 42), type := 0, pos := "parse.go:250", after := #[{ on := 26, ground := Ground.data }, { on := 24, ground := Ground.data }, { on := 24, ground := Ground.chain }, { on := 0, ground := Ground.phase }, { on := 1, ground := Ground.phase }, { on := 2, ground := Ground.phase }, { on := 3, ground := Ground.phase }, { on := 4, ground := Ground.phase }, { on := 5, ground := Ground.phase }, { on := 6, ground := Ground.phase }, { on := 7, ground := Ground.phase }, { on := 8, ground := Ground.phase }, { on := 9, ground := Ground.phase }, { on := 10, ground := Ground.phase }, { on := 11, ground := Ground.phase }, { on := 12, ground := Ground.phase }, { on := 13, ground := Ground.phase }, { on := 14, ground := Ground.phase }, { on := 15, ground := Ground.phase }, { on := 16, ground := Ground.phase }, { on := 17, ground := Ground.phase }, { on := 18, ground := Ground.phase }, { on := 19, ground := Ground.phase }, { on := 20, ground := Ground.phase }, { on := 21, ground := Ground.phase }, { on := 22, ground := Ground.phase }, { on := 23, ground := Ground.phase }, { on := 24, ground := Ground.phase }], guard := none }) rfl (fun K hK => ?_) ?_
        · go_simp
          refine hK.out _ _ ?_ (fun hHeld => ?_)
          · first | (refine ⟨?_, ?_, ?_⟩ <;> assumption) | (refine ⟨cell_off ?_ (by decide), cell_off ?_ (by decide), cell_off ?_ (by decide)⟩ <;> assumption) | go_keep
          clear hK K
          try simp only [Act.put, List.setIfInBounds_toArray, List.set_cons_zero, List.set_cons_succ]
          refine wpAnyH_done (by kernel_rfl) ?_ _
          generalize hW6 : w5.setCell ⟨p, 18, none⟩ (.slice a5 (xs.length + 1) k5) = W6
          have hr6 : Rb W6 p (rsOf s (.slice a l.length cap) T hv (.slice a5 (xs.length + 1) k5)) := by rw [← hW6]; exact Rb.of (set_lst HR5.out 18 _) rfl
          have hm6 : Md (· = p) w5 W6 := by rw [← hW6]; exact (Md.refl _ _).setp _ _
          clear hW6 e0 e1 e17 e18 e19 g1 g18 g19
          have e1 : W6.cell? ⟨p, 1, none⟩ = some (.int .i64 (s.at_ : Int)) := hr6.cell 1 rfl
          have e17 : W6.cell? ⟨p, 17, none⟩ = some (.int .i64 (s.size : Int)) := hr6.cell 17 rfl
          have e19 : W6.cell? ⟨p, 19, none⟩ = some (.int .i64 (s.sum : Int)) := hr6.cell 19 rfl
          have g1 := hr6.fz 1
          have g19 := hr6.fz 19
          have H6 := (show Hid _ from And.intro hr6 hm6)
          clear hr6 hm6 hHeld
          generalize (if cap = s.at_ then a else Option.map (fun x => x.add s.at_) a) = A9
          go_wp2
          go_region
          all_goals go_wp2
          all_goals go_region
          all_goals go_wp2
          all_goals go_ret
          all_goals
            refine ⟨rfl, K9.out _ (Rb.of (set_lst (set_lst H6.out.1 1 _) 19 _) ?_) ?_⟩
            · simp [Rs.c, rsOf, takeL, HE.out]
            · first
                | exact (H6.out.2.drew.setp _ _).drew.setp _ _
                | exact (H6.out.2.setp _ _).setp _ _
        exact AllReadyH.nil
      exact AllReadyH.nil
    exact AllReadyH.nil
  refine AllReadyH.cons (o := { dst := some 41, op := Op.buildSlice 45 1 #[(0, Operand.tmp 40)], type := 45, pos := "parse.go:250", after := #[{ on := 22, ground := Ground.data }], guard := none }) rfl (fun K hK => ?_) ?_
  · go_simp
    refine hK.out _ _ ?_ (fun hHeld => ?_)
    · first | (refine ⟨?_, ?_, ?_⟩ <;> assumption) | (refine ⟨cell_off ?_ (by decide), cell_off ?_ (by decide), cell_off ?_ (by decide)⟩ <;> assumption) | go_keep
    clear hK K
    try simp only [Act.put, List.setIfInBounds_toArray, List.set_cons_zero, List.set_cons_succ]
    refine wpAnyH_ready (rs := [4]) (by kernel_rfl) (by simp) ?_
    refine AllReadyH.cons (o := { dst := some 22, op := Op.load 45 (Operand.tmp 21), type := 45, pos := "parse.go:250", after := #[{ on := 3, ground := Ground.data }], guard := none }) rfl (fun K hK => ?_) ?_
    · go_simp
      refine hK.out _ _ ?_ (fun hHeld => ?_)
      · first | (refine ⟨?_, ?_, ?_⟩ <;> assumption) | (refine ⟨cell_off ?_ (by decide), cell_off ?_ (by decide), cell_off ?_ (by decide)⟩ <;> assumption) | go_keep
      clear hK K
      try simp only [Act.put, List.setIfInBounds_toArray, List.set_cons_zero, List.set_cons_succ]
      refine wpAnyH_ready (rs := [24]) (by kernel_rfl) (by simp) ?_
      refine AllReadyH.cons (o := { dst := some 42, op := Op.call { callee := Callee.builtin Builtin.append, args := #[Operand.tmp 22, Operand.tmp 41], argTypes := #[45, 45] }, type := 45, pos := "parse.go:250", after := #[{ on := 4, ground := Ground.data }, { on := 23, ground := Ground.data }], guard := none }) rfl (fun K hK => ?_) ?_
      · refine step_append_two rfl (.tmp 22) (.tmp 41) 45 rfl (p + 1) 22 i0 (.slice none 0 0) 1 24 Tryz.underlying45 hi hz0 hz1 hz2 rfl (by decide) _ xs.length _ rfl own5 ⟨W.heap.size, 0, none⟩ 1 1 [.slice (if cap = s.at_ then a else Option.map (fun x => x.add s.at_) a) (E - s.at_) (cap - s.at_)] rfl rfl HZ5.out hV1 (by unfold maxLen; omega) (by omega) hbase5 ?_
        intro v5 w5 hown5 hgrow5 hvb5
        have hr5 := HK5.out w5 hgrow5
        have e0 : w5.cell? ⟨p, 0, none⟩ = some (.slice a l.length cap) := hr5.cell 0 rfl
        have e1 : w5.cell? ⟨p, 1, none⟩ = some (.int .i64 (s.at_ : Int)) := hr5.cell 1 rfl
        have e17 : w5.cell? ⟨p, 17, none⟩ = some (.int .i64 (s.size : Int)) := hr5.cell 17 rfl
        have e18 := hr5.cell 18 rfl
        have e19 : w5.cell? ⟨p, 19, none⟩ = some (.int .i64 (s.sum : Int)) := hr5.cell 19 rfl
        have g1 := hr5.fz 1
        have g18 := hr5.fz 18
        have g19 := hr5.fz 19
        have K9 := (show Hid _ from fun w6 => HFIN.out w5 v5 w6 hgrow5 hown5)
        have HR5 := (show Hid _ from hr5)
        obtain ⟨a5, k5, rfl⟩ := own_slice hown5
        clear hown5 hgrow5 hvb5 hr5
        refine hK.out _ _ ?_ (fun hHeld => ?_)
        · first | (refine ⟨?_, ?_, ?_⟩ <;> assumption) | (refine ⟨cell_off ?_ (by decide), cell_off ?_ (by decide), cell_off ?_ (by decide)⟩ <;> assumption) | go_keep
        clear hK K
        try simp only [Act.put, List.setIfInBounds_toArray, List.set_cons_zero, List.set_cons_succ]
        refine wpAnyH_take (i := 25) (oi := { dst := some 43, op := Op.nilCheck (Operand.tmp 18), type := 0, pos := "parse.go:250", after := #[{ on := 0, ground := Ground.data }, { on := 0, ground := Ground.phase }, { on := 1, ground := Ground.phase }, { on := 2, ground := Ground.phase }, { on := 3, ground := Ground.phase }, { on := 4, ground := Ground.phase }, { on := 5, ground := Ground.phase }, { on := 6, ground := Ground.phase }, { on := 7, ground := Ground.phase }, { on := 8, ground := Ground.phase }, { on := 9, ground := Ground.phase }, { on := 10, ground := Ground.phase }, { on := 11, ground := Ground.phase }, { on := 12, ground := Ground.phase }, { on := 13, ground := Ground.phase }, { on := 14, ground := Ground.phase }, { on := 15, ground := Ground.phase }, { on := 16, ground := Ground.phase }, { on := 17, ground := Ground.phase }, { on := 18, ground := Ground.phase }, { on := 19, ground := Ground.phase }, { on := 20, ground := Ground.phase }, { on := 21, ground := Ground.phase }, { on := 22, ground := Ground.phase }, { on := 23, ground := Ground.phase }, { on := 24, ground := Ground.phase }], guard := none }) (v := ?_) rfl (by kernel_rfl) (by kernel_rfl) (by kernel_rfl) (fun _ _ _ h => h) (Or.inl ⟨by rfl, ?_⟩) (by assumption) ?_
        rotate_left
        · intro w hSw
          try dsimp only at hSw
          go_simp
          all_goals with_reducible rfl
        all_goals skip
        try simp only [Act.put, List.setIfInBounds_toArray, List.set_cons_zero, List.set_cons_succ]
        refine wpAnyH_take (i := 26) (oi := { dst := some 44, op := Op.fieldAddr 47 (Operand.tmp 43) 7, type := 0, pos := "parse.go:250", after := #[{ on := 25, ground := Ground.data }, { on := 0, ground := Ground.phase }, { on := 1, ground := Ground.phase }, { on := 2, ground := Ground.phase }, { on := 3, ground := Ground.phase }, { on := 4, ground := Ground.phase }, { on := 5, ground := Ground.phase }, { on := 6, ground := Ground.phase }, { on := 7, ground := Ground.phase }, { on := 8, ground := Ground.phase }, { on := 9, ground := Ground.phase }, { on := 10, ground := Ground.phase }, { on := 11, ground := Ground.phase }, { on := 12, ground := Ground.phase }, { on := 13, ground := Ground.phase }, { on := 14, ground := Ground.phase }, { on := 15, ground := Ground.phase }, { on := 16, ground := Ground.phase }, { on := 17, ground := Ground.phase }, { on := 18, ground := Ground.phase }, { on := 19, ground := Ground.phase }, { on := 20, ground := Ground.phase }, { on := 21, ground := Ground.phase }, { on := 22, ground := Ground.phase }, { on := 23, ground := Ground.phase }, { on := 24, ground := Ground.phase }], guard := none }) (v := ?_) rfl (by kernel_rfl) (by kernel_rfl) (by kernel_rfl) (fun _ _ _ h => h) (Or.inl ⟨by rfl, ?_⟩) (by assumption) ?_
        rotate_left
        · intro w hSw
          try dsimp only at hSw
          go_simp
          all_goals with_reducible rfl
        all_goals skip
        try simp only [Act.put, List.setIfInBounds_toArray, List.set_cons_zero, List.set_cons_succ]
        refine wpAnyH_ready (rs := [27]) (by kernel_rfl) (by simp) ?_
        refine AllReadyH.cons (o := { dst := none, op := Op.store 45 (Operand.tmp 44) (Operand.tmp 42), type := 0, pos := "parse.go:250", after := #[{ on := 26, ground := Ground.data }, { on := 24, ground := Ground.data }, { on := 24, ground := Ground.chain }, { on := 0, ground := Ground.phase }, { on := 1, ground := Ground.phase }, { on := 2, ground := Ground.phase }, { on := 3, ground := Ground.phase }, { on := 4, ground := Ground.phase }, { on := 5, ground := Ground.phase }, { on := 6, ground := Ground.phase }, { on := 7, ground := Ground.phase }, { on := 8, ground := Ground.phase }, { on := 9, ground := Ground.phase }, { on := 10, ground := Ground.phase }, { on := 11, ground := Ground.phase }, { on := 12, ground := Ground.phase }, { on := 13, ground := Ground.phase }, { on := 14, ground := Ground.phase }, { on := 15, ground := Ground.phase }, { on := 16, ground := Ground.phase }, { on := 17, ground := Ground.phase }, { on := 18, ground := Ground.phase }, { on := 19, ground := Ground.phase }, { on := 20, ground := Ground.phase }, { on := 21, ground := Ground.phase }, { on := 22, ground := Ground.phase }, { on := 23, ground := Ground.phase }, { on := 24, ground := Ground.phase }], guard := none }) rfl (fun K hK => ?_) ?_
        · go_simp
          refine hK.out _ _ ?_ (fun hHeld => ?_)
          · first | (refine ⟨?_, ?_, ?_⟩ <;> assumption) | (refine ⟨cell_off ?_ (by decide), cell_off ?_ (by decide), cell_off ?_ (by decide)⟩ <;> assumption) | go_keep
          clear hK K
          try simp only [Act.put, List.setIfInBounds_toArray, List.set_cons_zero, List.set_cons_succ]
          refine wpAnyH_done (by kernel_rfl) ?_ _
          generalize hW6 : w5.setCell ⟨p, 18, none⟩ (.slice a5 (xs.length + 1) k5) = W6
          have hr6 : Rb W6 p (rsOf s (.slice a l.length cap) T hv (.slice a5 (xs.length + 1) k5)) := by rw [← hW6]; exact Rb.of (set_lst HR5.out 18 _) rfl
          have hm6 : Md (· = p) w5 W6 := by rw [← hW6]; exact (Md.refl _ _).setp _ _
          clear hW6 e0 e1 e17 e18 e19 g1 g18 g19
          have e1 : W6.cell? ⟨p, 1, none⟩ = some (.int .i64 (s.at_ : Int)) := hr6.cell 1 rfl
          have e17 : W6.cell? ⟨p, 17, none⟩ = some (.int .i64 (s.size : Int)) := hr6.cell 17 rfl
          have e19 : W6.cell? ⟨p, 19, none⟩ = some (.int .i64 (s.sum : Int)) := hr6.cell 19 rfl
          have g1 := hr6.fz 1
          have g19 := hr6.fz 19
          have H6 := (show Hid _ from And.intro hr6 hm6)
          clear hr6 hm6 hHeld
          generalize (if cap = s.at_ then a else Option.map (fun x => x.add s.at_) a) = A9
          go_wp2
          go_region
          all_goals go_wp2
          all_goals go_region
          all_goals go_wp2
          all_goals go_ret
          all_goals
            refine ⟨rfl, K9.out _ (Rb.of (set_lst (set_lst H6.out.1 1 _) 19 _) ?_) ?_⟩
            · simp [Rs.c, rsOf, takeL, HE.out]
            · first
                | exact (H6.out.2.drew.setp _ _).drew.setp _ _
                | exact (H6.out.2.setp _ _).setp _ _
        exact AllReadyH.nil
      exact AllReadyH.nil
    exact AllReadyH.nil
  exact AllReadyH.nil
end Go.Proofs.YtmodmeabjhaklabGreatDoor
/-
  slices.Grow and slices.Concat of bytes by their contracts.
-/
namespace Go.Proofs.YtmodmeabjhaklabGreatDoor
open Go.RowKit

theorem wpList_append_bytes {w : World} {ops : Array Oper} {rest : List Oper} {o : Oper} {a : Act} {Q : Exit → Act → World → Prop} (hgd : o.guard = none) (s x : Operand)
    (ho : o.op = .call { callee := .builtin .append, args := #[s, x], argTypes := #[22, 22] })
    (base : Nat) (v : Value) (l : List UInt8) (hs : a.eval s = v) (hown : Own w base v l)
    (xa : Option Addr) (m : List UInt8) (c : Nat) (hx : a.eval x = .slice xa m.length c) (hm : Bytes w xa m) (hc : xa = none → c = 0) (hbytes : l.length + m.length ≤ 2000000000) (hbase : base ≤ w.heap.size)
    (h : ∀ v' w', Own w' base v' (l ++ m) → w.grownBy w' v.ownBlock → wpList Tryz.prog ops Q rest (a.put o.dst v') w') : wpList Tryz.prog ops Q (o :: rest) a w := by
  obtain ⟨i0, hi, hz0, hz1, hz2⟩ := info_parts info5
  cases xa with
  | none =>
    obtain rfl : m = [] := by rcases hm with h | ⟨_, _, he, _⟩; exact h; simp at he
    obtain rfl := hc rfl
    refine wpList_append_own_none hgd s x 22 ho base 5 i0 1 Tryz.underlying22 hi v l.length (bcs l) hs hown hx ?_
    exact h v w (by rw [List.append_nil]; exact hown) (World.grownBy.refl _ _)
  | some ad =>
    refine wpList_append_own w hgd s x 22 ho base 5 i0 (.int .u8 0) 1 1 Tryz.underlying22 hi hz0 hz1 hz2 rfl (by decide) v l.length (bcs l) hs hown ad m.length c (bcs m) hx (by rw [bcs_length, Nat.mul_one]) ?_ (bcs_one m) (by unfold maxLen; omega) (by omega) hbase ?_
    · intro j u hj
      rcases hm with rfl | ⟨b, off, he, _, hcs⟩
      · simp [bcs] at hj
      · simp only [Option.some.injEq] at he
        subst he
        have hj' : j < m.length := by
          have := (List.getElem?_eq_some_iff.1 hj).1
          rwa [bcs_length] at this
        rw [Addr.add_lit, hcs j hj', ← hj, bcs_get hj']
    · intro v' w' ho' hg' _
      refine h v' w' ?_ hg'
      unfold Own
      rw [List.length_append, bcs_append]
      exact ho'

/-- 'append' by its run. -/
theorem wpList_append_run {P : Program} {w : World} {ops : Array Oper} {rest : List Oper} {o : Oper} {a : Act} {Q : Exit → Act → World → Prop} (hgd : o.guard = none) (s x : Operand) (t tn : TypeId)
    (ho : o.op = .call { callee := .builtin .append, args := #[s, x], argTypes := #[t, tn] }) (vs vx : Value) (hs : a.eval s = vs) (hx : a.eval x = vx) (v' : Value) (w' : World)
    (hr : ∀ ty, (Builtin.append_ #[t, tn] ty #[vs, vx]).run P w = .ok v' w') (h : wpList P ops Q rest (a.put o.dst v') w') : wpList P ops Q (o :: rest) a w := by
  refine wpList_plain hgd fun _ hK => ?_
  unfold Oper.wp execOp
  simp only [ho, resolve, invoke, builtin, Sem.run_bind, Sem.run_pure, Result.andThen_ok, List.map_toArray, List.map_cons, List.map_nil, hs, hx, hr]
  exact hK _ _ h
theorem zeroCells_size (n : Nat) : (Builtin.zeroCells (Value.int .u8 0).cells n).size = n := by simp [Builtin.zeroCells, Value.cells]

set_option maxHeartbeats 1000000 in
set_option maxRecDepth 20000 in
theorem grow_any (n : Nat) (w : World) (hn : n ≤ 1000000000) :
    Calls Tryz.prog 84 #[.slice none 0 0, .int .i64 (n : Int)] w fun e w' => ∃ v, e = .returned v ∧ Own w' w.heap.size v [] ∧ Below w.heap.size w w' := by
  obtain ⟨i0, hi, hz0, hz1, hz2⟩ := info_parts info5
  by_cases h0 : n = 0
  · subst h0
    go_enter Tryz.func84, Tryz.ntmps84
    go_wp2
    go_ret
    exact ⟨_, rfl, World.ownsRow_nil _ _ _ _, Below.refl _ _⟩
  · have hpos : (0 : Int) < (n : Int) := by omega
    have hrun : ∀ ty, (Builtin.append_ #[22, 3] ty #[.slice none 0 0, .int .i64 (n : Int)]).run Tryz.prog w = .ok (.slice (some ⟨w.heap.size, 0, none⟩) n (grownCap w n 0 5)) (w.drew.alloc (.cells (Builtin.zeroCells (Value.int .u8 0).cells n ++ Builtin.zeroCells (Value.int .u8 0).cells (grownCap w n 0 5 - n)) 5)) :=
      fun ty => Lib.run_append_nil_zeros w 22 3 ty 5 i0 (.int .u8 0) .i64 .i64 Tryz.underlying22 Tryz.underlying3 hi hz0 n (by omega) (by omega) (by omega) (by rw [hz2]; omega)
    have hG : n ≤ grownCap w n 0 5 := grownCap_ge w _ _ _
    have hG2 := grownCap_le_maxLen w n 0 5 (by unfold maxLen; omega)
    obtain ⟨c, hc⟩ : ∃ c, c = grownCap w n 0 5 := ⟨_, rfl⟩
    rw [← hc] at hrun hG hG2
    have hrow : (w.drew.alloc (.cells (Builtin.zeroCells (Value.int .u8 0).cells n ++ Builtin.zeroCells (Value.int .u8 0).cells (c - n)) 5)).ownsRow w.heap.size 5 1 (.slice (some ⟨w.heap.size, 0, none⟩) 0 c) 0 [] := by
      refine ⟨rfl, .inr ⟨w.heap.size, c, _, rfl, Nat.le_refl _, heap_alloc_new w.drew _, Nat.zero_le _, hG2, ?_, by simp⟩⟩
      rw [Array.size_append, zeroCells_size, zeroCells_size]
      omega
    have hbel : Below w.heap.size w (w.drew.alloc (.cells (Builtin.zeroCells (Value.int .u8 0).cells n ++ Builtin.zeroCells (Value.int .u8 0).cells (c - n)) 5)) := ((Below.refl _ w).drew).alloc (Nat.le_refl _) _
    obtain ⟨w1, hw1⟩ : ∃ w1, w1 = w.drew.alloc (.cells (Builtin.zeroCells (Value.int .u8 0).cells n ++ Builtin.zeroCells (Value.int .u8 0).cells (c - n)) 5) := ⟨_, rfl⟩
    rw [← hw1] at hrun hrow hbel
    have HR := (show Hid _ from hrun)
    have HX : Hid (w1.ownsRow w.heap.size 5 1 (.slice (some ⟨w.heap.size, 0, none⟩) 0 c) 0 [] ∧ Below w.heap.size w w1) := ⟨hrow, hbel⟩
    clear hc h0 hrun hrow hbel hw1
    go_enter Tryz.func84, Tryz.ntmps84
    go_wp2_with (at_builtin; refine wpList_append_run rfl (.tmp 20) (.tmp 21) 22 3 rfl (.slice none 0 0) (.int .i64 (n : Int)) rfl rfl (.slice (some ⟨w.heap.size, 0, none⟩) n c) w1 HR.out ?_)
    go_ret
    exact ⟨_, rfl, HX.out.1, HX.out.2⟩

/-- A row of such slices. -/
def Rws (w : World) (b : Nat) (xs : List Sl) : Prop :=
  b < w.heap.size ∧ ∀ j (h : j < xs.length), w.cell? ⟨b, j, none⟩ = some xs[j].v ∧ Bytes w xs[j].a xs[j].l ∧ (xs[j].a = none → xs[j].c = 0)
def cat (xs : List Sl) : List UInt8 := xs.flatMap (·.l)
theorem cat_take {xs : List Sl} {k : Nat} (h : k < xs.length) : cat (xs.take (k + 1)) = cat (xs.take k) ++ xs[k].l := by
  rw [List.take_succ_eq_append_getElem h, cat, cat, List.flatMap_append]
  simp
theorem cat_len (xs : List Sl) (k : Nat) : (cat (xs.take k)).length ≤ (cat xs).length := by
  have e : cat xs = cat (xs.take k) ++ cat (xs.drop k) := by rw [cat, cat, cat, ← List.flatMap_append, List.take_append_drop]
  rw [e, List.length_append]
  omega

set_option maxHeartbeats 2000000 in
set_option maxRecDepth 20000 in
theorem concat_any (b : Nat) (xs : List Sl) (cap : Nat) (w : World) (hx : Rws w b xs) (hn : xs.length ≤ 1000000000) (ht : (cat xs).length ≤ 1000000000) :
    Calls Tryz.prog 61 #[.slice (some ⟨b, 0, none⟩) xs.length cap] w fun e w' => ∃ v, e = .returned v ∧ Own w' w.heap.size v (cat xs) ∧ Below w.heap.size w w' := by
  have hgr := grow_any (cat xs).length w (by omega)
  have HG := (show Hid _ from hgr)
  have HX : Hid (Rws w b xs) := hx
  clear hgr hx
  go_enter Tryz.func61, Tryz.ntmps61
  go_wp2
  go_loop [3, 11] (fun n i => ∃ k : Nat, k ≤ xs.length ∧ i = .int .i64 k ∧ n = .int .i64 ((cat (xs.take k)).length : Int)) (fun _ i => xs.length - (intOf i).toNat)
  case atStart => exact ⟨0, Nat.zero_le _, rfl, rfl⟩
  case round =>
    obtain ⟨k, hk, rfl, rfl⟩ := hrel
    have hle := cat_len xs k
    by_cases hlt : k < xs.length
    · have hc := (HX.out.2 k hlt).1
      have hs := cat_take hlt
      have hle2 := cat_len xs (k + 1)
      rw [hs, List.length_append] at hle2
      obtain ⟨s, hse⟩ : ∃ s, s = xs[k] := ⟨_, rfl⟩
      rw [← hse, Sl.v] at hc
      rw [← hse] at hs hle2
      have hki : (k : Int) < (xs.length : Int) := by omega
      have HS : Hid (cat (xs.take (k + 1)) = cat (xs.take k) ++ s.l) := hs
      obtain ⟨n0, hn0⟩ : ∃ n0, n0 = (cat (xs.take k)).length := ⟨_, rfl⟩
      rw [← hn0] at hle hle2 ⊢
      have HN0 : Hid (n0 = (cat (xs.take k)).length) := hn0
      have hneg : ¬ ((n0 : Int) + (s.l.length : Int) < 0) := by omega
      clear hs hse hn0
      go_wp2
      go_round
      case rel => exact ⟨k + 1, by omega, by go_num, by rw [HS.out, List.length_append, ← HN0.out]; go_num⟩
      case measure => simp [intOf]; omega
    · obtain rfl : k = xs.length := by omega
      rw [List.take_length]
      clear hle hlt hk
      go_wp2_with fail
      refine Calls.mono HG.out ?_
      rintro e w1 ⟨v1, rfl, ho1, hb1⟩
      have HO1 : Hid (Own w1 w.heap.size v1 [] ∧ Below w.heap.size w w1) := ⟨ho1, hb1⟩
      clear ho1 hb1
      go_wp2
      go_loopw [6, 27] (fun v i wr => ∃ k : Nat, k ≤ xs.length ∧ i = .int .i64 k ∧ Own wr w.heap.size v (cat (xs.take k)) ∧ Below w.heap.size w wr) (fun _ i _ => xs.length - (intOf i).toNat)
      case atStart => exact ⟨0, Nat.zero_le _, rfl, HO1.out.1, HO1.out.2⟩
      case round =>
        obtain ⟨k, hk, rfl, hown, hnx⟩ := hrel
        clear HO1
        have hle := cat_len xs k
        by_cases hlt : k < xs.length
        · obtain ⟨hc, hby, hno⟩ := HX.out.2 k hlt
          have hs := cat_take hlt
          have hle2 := cat_len xs (k + 1)
          rw [hs, List.length_append] at hle2
          have hcr := (hnx.cell (p := ⟨b, k, none⟩) HX.out.1).trans hc
          obtain ⟨s, hse⟩ : ∃ s, s = xs[k] := ⟨_, rfl⟩
          rw [← hse, Sl.v] at hcr
          rw [← hse] at hs hle2 hby hno
          have hbr : Bytes wr s.a s.l := hby.below hnx (Nat.le_refl _)
          have hki : (k : Int) < (xs.length : Int) := by omega
          have HS : Hid (cat (xs.take (k + 1)) = cat (xs.take k) ++ s.l) := hs
          have hsz := hnx.size
          have HOB : Hid (∀ j, u6.ownBlock = some j → w.heap.size ≤ j) := fun j hj => (hown.lt j hj).1
          clear hs hse hc
          go_wp2_with (at_builtin; refine wpList_append_bytes rfl (.tmp 31) (.tmp 32) rfl w.heap.size _ (cat (xs.take k)) rfl hown s.a s.l s.c rfl hbr hno (by omega) hsz ?_; intro v2 w2 ho2 hg2)
          go_roundw
          case rel => exact ⟨k + 1, by omega, by go_num, by rw [HS.out]; exact ho2, hnx.grown hg2 hsz HOB.out⟩
          case measure => simp [intOf]; omega
        · obtain rfl : k = xs.length := by omega
          rw [List.take_length] at hown
          go_wp2
          go_ret
          exact ⟨_, rfl, hown, hnx⟩
set_option maxHeartbeats 2000000 in
set_option maxRecDepth 20000 in
theorem concat_nil (w : World) :
    Calls Tryz.prog 61 #[.slice none 0 0] w fun e w' => ∃ v, e = .returned v ∧ Own w' w.heap.size v [] ∧ Below w.heap.size w w' := by
  have HG := (show Hid _ from grow_any 0 w (by omega))
  go_enter Tryz.func61, Tryz.ntmps61
  go_wp2
  go_loop [3, 11] (fun n i => i = .int .i64 0 ∧ n = .int .i64 0) (fun _ _ => 0)
  case atStart => exact ⟨rfl, rfl⟩
  case round =>
    obtain ⟨rfl, rfl⟩ := hrel
    go_wp2_with fail
    refine Calls.mono HG.out ?_
    rintro e w1 ⟨v1, rfl, ho1, hb1⟩
    have HO1 : Hid (Own w1 w.heap.size v1 [] ∧ Below w.heap.size w w1) := ⟨ho1, hb1⟩
    clear ho1 hb1
    go_wp2
    go_loop [6, 27] (fun v i => v = v1 ∧ i = .int .i64 0) (fun _ _ => 0)
    case atStart => exact ⟨rfl, rfl⟩
    case round =>
      obtain ⟨rfl, rfl⟩ := hrel
      go_wp2
      go_ret
      exact ⟨_, rfl, HO1.out.1, HO1.out.2⟩
/-- A row of slices of one's own, put together. -/
theorem concat_own {w : World} {base : Nat} {pv : Value} {xs : List Sl} (h : w.ownsRow base 22 1 pv xs.length (xs.map Sl.v)) (hb : ∀ x ∈ xs, Bytes w x.a x.l ∧ (x.a = none → x.c = 0)) (hn : xs.length ≤ 1000000000) (ht : (cat xs).length ≤ 1000000000) :
    Calls Tryz.prog 61 #[pv] w fun e w' => ∃ v, e = .returned v ∧ Own w' w.heap.size v (cat xs) ∧ Below w.heap.size w w' := by
  have h0 := h
  obtain ⟨_, ⟨rfl, h2⟩ | ⟨g, cap, cur, rfl, hg, hh, _⟩⟩ := h
  · obtain rfl : xs = [] := List.length_eq_zero_iff.1 h2
    exact concat_nil w
  · refine concat_any g xs cap w ⟨blk_lt hh, fun j hj => ⟨?_, hb _ (List.getElem_mem hj)⟩⟩ hn ht
    have := h0.cellAt j (by omega)
    rw [this, List.getElem?_map, List.getElem?_eq_getElem hj]
    rfl
theorem cat_pcs (xs : List Sl) : cat xs = (xs.map (·.l)).flatten := by
  rw [cat, List.flatMap_def]
end Go.Proofs.YtmodmeabjhaklabGreatDoor
/-
  The head's end (reader.headEnd).
-/
namespace Go.Proofs.YtmodmeabjhaklabGreatDoor
open Go.RowKit

theorem flt_size {hs : List Hd} (h : fltL hs = 0) : 0 ≤ En.intV ((getL hs nCl).getD []) ∧ En.intV ((getL hs nCl).getD []) ≤ 1048576 := by
  unfold fltL at h
  split at h
  · omega
  · split at h
    · omega
    · split at h
      · omega
      · split at h
        · omega
        · next h4 =>
          refine ⟨?_, by omega⟩
          unfold En.intV
          split
          · exact (En.ival_bd _ _).1
          · omega
set_option maxRecDepth 20000 in
set_option maxHeartbeats 1000000 in
theorem headEnd_any {w0 w : World} {p : Nat} {l : List UInt8} {s : St} {a : Option Addr} {cap : Nat} {T : Tl} {hv pv : Value} {xs : List Sl} (h : Rd w0 w p l s a cap T hv pv xs) :
    Calls Tryz.prog 14 #[.pointer (some ⟨p, 0, none⟩)] w fun e w' => NxR w0 w w' p l a cap e (stepF l 2 s) := by
  obtain ⟨ha, hc, hve, hH⟩ := own_hdrs h.hs
  have hl9 : s.hs.length ≤ 1000000000 := by have := h.inv.hs; have := h.inv.at_; have := h.inv.len; omega
  have c15 : w.cell? ⟨p, 15, none⟩ = some (.slice ha s.hs.length hc) := by rw [← hve]; exact h.rb.cell 15 rfl
  have HFl := (show Hid _ from faultOf_any ha s.hs hc w hH hl9 h.inv.sm)
  have HG := (show Hid (∀ n W, Below w.heap.size w W → Calls Tryz.prog 34 #[.slice ha s.hs.length hc, .string ⟨n.toArray⟩] W fun e w' => e = .returned (.tuple #[.string ⟨((getL s.hs n).getD []).toArray⟩, .bool (getL s.hs n).isSome]) ∧ Below w.heap.size w w') from fun n W hW =>
    (get_any ha s.hs hc n W (hH.below hW (Nat.le_refl _)) hl9).mono fun e w' ⟨h1, h2⟩ => ⟨h1, hW.trans (h2.mono hW.size)⟩)
  have hcl := h.inv.sm.get nCl
  have H := (show Hid _ from h)
  have HS : Hid (stepF l 2 s = if fltL s.hs ≠ 0 then .fin (.bad (fltL s.hs)) else if (getL s.hs nTe).isSome then .go 4 s else .go 3 { s with size := (En.intV ((getL s.hs nCl).getD [])).toNat }) := rfl
  have HZ : Hid (fltL s.hs = 0 → 0 ≤ En.intV ((getL s.hs nCl).getD []) ∧ En.intV ((getL s.hs nCl).getD []) ≤ 1048576) := flt_size
  clear h hH hve
  go_enter Tryz.func14, Tryz.ntmps14
  go_wp2_with fail
  refine Calls.mono HFl.out ?_
  rintro e w1 ⟨rfl, hb1⟩
  have HB1 : Hid (Below w.heap.size w w1) := hb1
  clear HFl
  by_cases h0 : fltL s.hs = 0
  · have hneq : ((fltL s.hs) != 0) = false := by rw [h0]; rfl
    have hr1 := H.out.below hb1
    have c15' : w1.cell? ⟨p, 15, none⟩ = some (.slice ha s.hs.length hc) := (hb1.cell (p := ⟨p, 15, none⟩) H.out.rb.lt).trans c15
    have hz := HZ.out h0
    have hs := HS.out
    rw [if_neg (by simp [h0])] at hs
    have HS2 := (show Hid _ from hs)
    have G1 := (show Hid _ from HG.out nTe w1 hb1)
    have G2 := (show Hid _ from fun W hW => HG.out nCl W hW)
    unfold nTe at G1 HS2
    unfold nCl at G2 HS2
    unfold nCl at hz hcl
    have HC15 : Hid (w.cell? ⟨p, 15, none⟩ = some (.slice ha s.hs.length hc)) := c15
    clear hs HS HZ HG h0 c15 hr1
    generalize getL s.hs [116, 114, 97, 110, 115, 102, 101, 114, 45, 101, 110, 99, 111, 100, 105, 110, 103] = te at *
    go_wp2_with fail
    refine Calls.mono G1.out ?_
    rintro e w2 ⟨rfl, hb2⟩
    have hr2 := H.out.below hb2
    have c15'' : w2.cell? ⟨p, 15, none⟩ = some (.slice ha s.hs.length hc) := (hb2.cell (p := ⟨p, 15, none⟩) H.out.rb.lt).trans HC15.out
    cases te with
    | some t =>
      have HR := (show Hid _ from And.intro hr2 hb2)
      clear hr2 hb2
      simp only [Option.isSome_some]
      go_wp2
      go_ret
      exact NxR.go HS2.out rfl HR.out.1 (HR.out.2.mono (Nat.le_of_lt H.out.rb.lt))
    | none =>
      have K := G2.out w2 hb2
      have HB2 : Hid (Below w.heap.size w w2) := hb2
      clear G2 hr2 hb2 c15'
      simp only [Option.isSome_none]
      go_wp2_with fail
      refine Calls.mono K ?_
      rintro e w3 ⟨rfl, hb3⟩
      have hr3 := H.out.below hb3
      have f17 := hr3.rb.fz 17
      have c17 := hr3.rb.cell 17 rfl
      generalize (getL s.hs [99, 111, 110, 116, 101, 110, 116, 45, 108, 101, 110, 103, 116, 104]).isSome = cb at *
      generalize (getL s.hs [99, 111, 110, 116, 101, 110, 116, 45, 108, 101, 110, 103, 116, 104]).getD [] = cv at *
      have HI : Hid (∀ W, Calls Tryz.prog 35 #[.string ⟨cv.toArray⟩] W fun e w' => e = .returned (.tuple #[.int .i64 (En.intV cv), .bool (En.intOk cv)]) ∧ W = w') := fun W => En.int_any ⟨cv.toArray⟩ W (by rw [mk_size]; omega)
      generalize En.intV cv = iv at *
      generalize En.intOk cv = io at *
      have hI := H.out.inv
      have hm : Md (· = p) w (w3.setCell ⟨p, 17, none⟩ (.int .i64 iv)) := (Md.ofBelow hb3).setp _ _
      have HR := (show Hid (NxR w0 w (w3.setCell ⟨p, 17, none⟩ (.int .i64 iv)) p l a cap (.returned (.int .i64 3)) (stepF l 2 s)) from by
        refine NxR.go HS2.out rfl (H.out.turn hm (T' := T) (Rb.of (set_lst hr3.rb 17 _) ?_) rfl rfl ⟨hI.at_, hI.len, hI.head, hI.fields, hI.hs, hI.pcs, hI.sum, by simp only; omega, hI.sm⟩) (hm.toBl H.out.rb.lt)
        have : ((iv.toNat : Nat) : Int) = iv := by omega
        simp [Rs.c, rsOf, this])
      clear hr3 hb3 K hI hm
      go_wp2_with fail
      refine Calls.mono (HI.out w3) ?_
      rintro e w3' ⟨rfl, rfl⟩
      go_wp2
      go_ret
      exact HR.out
  · have hneq : ((fltL s.hs) != 0) = true := by rw [bne_iff_ne]; exact h0
    have hr1 := H.out.below hb1
    have K := (bad_any p _ (fltL s.hs) w1 hr1.rb)
    have HS2 : Hid (stepF l 2 s = .fin (.bad (fltL s.hs))) := by show _ = _; rw [HS.out, if_pos h0]
    clear HS HZ HG hr1 hb1 h0
    generalize fltL s.hs = x at *
    go_wp2_with fail
    refine Calls.mono K ?_
    rintro e w2 ⟨rfl, hr2, hm2⟩
    have HR := (show Hid _ from And.intro hr2 hm2)
    clear hr2 hm2 K
    go_wp2
    go_ret
    exact NxR.fin HS2.out rfl HR.out.1 rfl ((HB1.out.mono (Nat.le_of_lt H.out.rb.lt)).trans (HR.out.2.toBl (H.out.below HB1.out).rb.lt)) H.out.bl H.out.lo
end Go.Proofs.YtmodmeabjhaklabGreatDoor
/-
  The line ahead of a chunk (reader.chunkLine); what the steps keep.
-/
namespace Go.Proofs.YtmodmeabjhaklabGreatDoor
open Go.RowKit

theorem fld_keep {l : List UInt8} {s s' : St} {z : Option Hd} (h : fldL l s = .ok s' z) : s'.pcs = s.pcs ∧ s'.sum = s.sum ∧ s'.size = s.size := by
  unfold fldL at h
  split at h
  · cases h
  · cases h
  · split at h
    · simp only [Fl.ok.injEq] at h
      obtain ⟨rfl, -⟩ := h
      exact ⟨rfl, rfl, rfl⟩
    · split at h
      · cases h
      · split at h
        · cases h
        · simp only [Fl.ok.injEq] at h
          obtain ⟨rfl, -⟩ := h
          exact ⟨rfl, rfl, rfl⟩
theorem step4_more {l : List UInt8} {s : St} (h : lnL 256 257 (l.drop s.at_) = .more) : stepF l 4 s = .fin .more := by simp [stepF, h]
theorem step4_long {l : List UInt8} {s : St} (h : lnL 256 257 (l.drop s.at_) = .long) : stepF l 4 s = .fin (.bad 308) := by simp [stepF, h]
theorem step4_bad {l x : List UInt8} {s : St} (h : lnL 256 257 (l.drop s.at_) = .ok x) (hc : chkL x = none) : stepF l 4 s = .fin (.bad 308) := by simp [stepF, h, hc]
theorem step4_big {l x : List UInt8} {s : St} {n : Nat} (h : lnL 256 257 (l.drop s.at_) = .ok x) (hc : chkL x = some n) (hn : 1048576 < s.sum + n) : stepF l 4 s = .fin (.bad 324) := by simp [stepF, h, hc, hn]
theorem step4_nil {l x : List UInt8} {s : St} (h : lnL 256 257 (l.drop s.at_) = .ok x) (hc : chkL x = some 0) (hn : ¬ 1048576 < s.sum + 0) : stepF l 4 s = .go 6 { s with at_ := s.at_ + (x.length + 2) } := by simp [stepF, h, hc]; omega
theorem step4_go {l x : List UInt8} {s : St} {n : Nat} (h : lnL 256 257 (l.drop s.at_) = .ok x) (hc : chkL x = some n) (hn : ¬ 1048576 < s.sum + n) (h0 : n ≠ 0) : stepF l 4 s = .go 5 { s with at_ := s.at_ + (x.length + 2), size := n } := by simp [stepF, h, hc, hn, h0]

set_option maxRecDepth 20000 in
set_option maxHeartbeats 1000000 in
theorem chunkLine_any {w0 w : World} {p : Nat} {l : List UInt8} {s : St} {a : Option Addr} {cap : Nat} {T : Tl} {hv pv : Value} {xs : List Sl} (h : Rd w0 w p l s a cap T hv pv xs) :
    Calls Tryz.prog 16 #[.pointer (some ⟨p, 0, none⟩)] w fun e w' => NxR w0 w w' p l a cap e (stepF l 4 s) := by
  have HL := (show Hid _ from h.line 256 257 308)
  have H := (show Hid _ from h)
  clear h
  go_enter Tryz.func16, Tryz.ntmps16
  go_wp2_with fail
  refine Calls.mono HL.out ?_
  clear HL
  intro e w1 hln
  cases hx : lnL 256 257 (l.drop s.at_) with
  | more =>
    rw [hx] at hln
    obtain ⟨rfl, hr, hm⟩ := hln
    have HS : Hid (stepF l 4 s = .fin .more) := step4_more hx
    have HR := (show Hid _ from And.intro hr hm)
    clear hx hr hm
    go_wp2
    go_ret
    exact NxR.fin HS.out rfl HR.out.1 rfl (HR.out.2.toBl H.out.rb.lt) H.out.bl H.out.lo
  | long =>
    rw [hx] at hln
    obtain ⟨rfl, hr, hm⟩ := hln
    have HS : Hid (stepF l 4 s = .fin (.bad 308)) := step4_long hx
    have HR := (show Hid _ from And.intro hr hm)
    clear hx hr hm
    go_wp2
    go_ret
    exact NxR.fin HS.out rfl HR.out.1 rfl (HR.out.2.toBl H.out.rb.lt) H.out.bl H.out.lo
  | ok x =>
    rw [hx] at hln
    obtain ⟨rfl, hr, hm⟩ := hln
    have hxl := (ln_ok hx).2.2.1
    rw [List.length_drop] at hxl
    have hI := H.out.inv
    have hat : s.at_ + (x.length + 2) ≤ l.length := by have := hI.at_; omega
    have hl9 := hI.len
    have hsum := hI.sum
    have hx9 : x.length ≤ 1000000000 := by omega
    have hr1 : Rd w0 w1 p l { s with at_ := s.at_ + (x.length + 2) } a cap T hv pv xs := H.out.turn hm hr rfl rfl ⟨hat, hl9, by have := hI.head; simp only; omega, by have := hI.fields; simp only; omega, by have := hI.hs; simp only; omega, by have := hI.pcs; simp only; omega, by simp only; omega, hI.size, hI.sm⟩
    have HC := (show Hid _ from chunkSize_any x w1 hx9 (H.out.mx.below hr1.bl (Nat.le_refl _)) (H.out.er.below hr1.bl (Nat.le_refl _)))
    have HX : Hid (lnL 256 257 (l.drop s.at_) = .ok x) := hx
    have HR1 := (show Hid _ from And.intro hr1 hm)
    have hlt : ∀ n, chkL x = some n → n < 4294967296 := fun n h => chk_lt h
    have hat9 : s.at_ ≤ l.length := by omega
    clear hx hr hm hr1 hI hat
    go_wp2_with fail
    refine Calls.mono HC.out ?_
    clear HC
    rintro e w2 ⟨rfl, hb2⟩
    have hr2 := HR1.out.1.below hb2
    have hm2 : Md (· = p) w w2 := HR1.out.2.below hb2
    have c19 : w2.cell? ⟨p, 19, none⟩ = some (.int .i64 (s.sum : Int)) := hr2.rb.cell 19 rfl
    have c17 := hr2.rb.cell 17 rfl
    have f17 := hr2.rb.fz 17
    have HR2 := (show Hid _ from And.intro hr2 hm2)
    clear hr2 hm2 HR1 hb2
    have HBad := (show Hid (∀ z, stepF l 4 s = .fin (.bad z) → Calls Tryz.prog 31 #[.pointer (some ⟨p, 0, none⟩), .int .i64 z] w2 fun e w' => e = .returned (.int .i64 7) ∧ NxR w0 w w' p l a cap (.returned (.int .i64 7)) (stepF l 4 s)) from fun z hz => by
      refine (bad_any p _ z w2 HR2.out.1.rb).mono ?_
      rintro e w' ⟨rfl, h5, h6⟩
      exact ⟨rfl, NxR.fin hz rfl h5 rfl ((HR2.out.2.trans h6).toBl H.out.rb.lt) H.out.bl H.out.lo⟩)
    cases hc : chkL x with
    | none =>
      have K := HBad.out 308 (step4_bad HX.out hc)
      clear hc hlt HBad
      simp only [Option.getD_none, Option.isSome_none]
      go_wp2_with fail
      refine Calls.mono K ?_
      rintro e w' ⟨rfl, hn⟩
      go_wp2
      go_ret
      exact hn
    | some n =>
      have hn9 := hlt n hc
      simp only [Option.getD_some, Option.isSome_some]
      by_cases hb : 1048576 < s.sum + n
      · have hbi : (1048576 : Int) < (s.sum : Int) + (n : Int) := by omega
        have K := HBad.out 324 (step4_big HX.out hc hb)
        clear hc hlt HBad hb
        go_wp2_with fail
        refine Calls.mono K ?_
        rintro e w' ⟨rfl, hn⟩
        go_wp2
        go_ret
        exact hn
      · have hbi : ¬ (1048576 : Int) < (s.sum : Int) + (n : Int) := by omega
        by_cases h0 : n = 0
        · subst h0
          have HS : Hid (stepF l 4 s = .go 6 { s with at_ := s.at_ + (x.length + 2) }) := step4_nil HX.out hc hb
          clear hc hlt HBad hb
          go_wp2
          go_ret
          exact NxR.go HS.out rfl HR2.out.1 (HR2.out.2.toBl H.out.rb.lt)
        · have h0i : ((n : Int) == 0) = false := by rw [beq_eq_false_iff_ne]; omega
          have HS : Hid (stepF l 4 s = .go 5 { s with at_ := s.at_ + (x.length + 2), size := n }) := step4_go HX.out hc hb h0
          have hI := HR2.out.1.inv
          have hm3 : Md (· = p) w2 (w2.setCell ⟨p, 17, none⟩ (.int .i64 (n : Int))) := (Md.refl _ _).setp _ _
          have HG := (show Hid (NxR w0 w (w2.setCell ⟨p, 17, none⟩ (.int .i64 (n : Int))) p l a cap (.returned (.int .i64 5)) (stepF l 4 s)) from
            NxR.go HS.out rfl (HR2.out.1.turn hm3 (T' := T) (s' := { s with at_ := s.at_ + (x.length + 2), size := n }) (Rb.of (set_lst HR2.out.1.rb 17 _) rfl) rfl rfl ⟨hI.at_, hI.len, hI.head, hI.fields, hI.hs, hI.pcs, hI.sum, by simp only; omega, hI.sm⟩) ((HR2.out.2.trans hm3).toBl H.out.rb.lt))
          clear hc hlt HBad hb hI hm3 h0
          go_wp2
          go_ret
          exact HG.out
set_option maxRecDepth 20000 in
set_option maxHeartbeats 1000000 in
theorem trailer_any {w0 w : World} {p : Nat} {l : List UInt8} {s : St} {a : Option Addr} {cap : Nat} {T : Tl} {hv pv : Value} {xs : List Sl} (h : Rd w0 w p l s a cap T hv pv xs)
    (hD : ∀ w1 s' T hv pv xs, s'.pcs = s.pcs → Rd w0 w1 p l s' a cap T hv pv xs → Calls Tryz.prog 38 #[.pointer (some ⟨p, 0, none⟩)] w1 fun e w' => e = .returned (.int .i64 7) ∧ FinR w0 w' p (doneL s') ∧ Below p w1 w') :
    Calls Tryz.prog 18 #[.pointer (some ⟨p, 0, none⟩)] w fun e w' => NxR w0 w w' p l a cap e (stepF l 6 s) := by
  have HF := (show Hid _ from field_any h)
  have H := (show Hid _ from h)
  have HD := (show Hid _ from hD)
  clear h hD
  go_enter Tryz.func18, Tryz.ntmps18
  go_wp2_with fail
  refine Calls.mono HF.out ?_
  clear HF
  intro e w1 hfl
  cases hx : fldL l s with
  | fin t =>
    rw [hx] at hfl
    obtain ⟨rfl, hf, hb⟩ := hfl
    have HS : Hid (stepF l 6 s = .fin t) := by show _ = _; simp [stepF, hx]
    have HR := (show Hid _ from And.intro hf hb)
    clear hx hf hb
    go_wp2
    go_ret
    rw [HS.out]
    have hba : Below w1.heap.size w1 (w1.alloc (.cells #[.string ⟨#[]⟩, .string ⟨#[]⟩] 31)) := (Below.refl _ _).alloc (Nat.le_refl _) _
    exact ⟨rfl, HR.out.1.below hba, HR.out.2.trans (hba.mono (by obtain ⟨r, h1, _⟩ := HR.out.1; have := h1.lt; omega))⟩
  | ok s' z =>
    rw [hx] at hfl
    obtain ⟨rfl, hr, hm⟩ := hfl
    cases z with
    | none =>
      have HS : Hid (stepF l 6 s = .fin (doneL s')) := by show _ = _; simp [stepF, hx]
      have hba : Below w1.heap.size w1 (w1.alloc (.cells #[.string ⟨#[]⟩, .string ⟨#[]⟩] 31)) := (Below.refl _ _).alloc (Nat.le_refl _) _
      have K := (show Hid _ from HD.out _ _ _ _ _ _ (fld_keep hx).1 (hr.below hba))
      have HR := (show Hid (Below p w (w1.alloc (.cells #[.string ⟨#[]⟩, .string ⟨#[]⟩] 31))) from (hm.toBl H.out.rb.lt).trans (hba.mono (Nat.le_of_lt hr.rb.lt)))
      clear hx hr hm hba
      unfold hdV
      simp only [Option.getD_none]
      go_wp2_with fail
      refine Calls.mono K.out ?_
      rintro e w2 ⟨rfl, hf, hb⟩
      have HQ := (show Hid _ from And.intro hf hb)
      clear hf hb K
      go_wp2
      go_ret
      rw [HS.out]
      exact ⟨rfl, HQ.out.1, HR.out.trans HQ.out.2⟩
    | some z =>
      have HS : Hid (stepF l 6 s = .go 6 s') := by show _ = _; simp [stepF, hx]
      obtain ⟨hzn, -⟩ := fld_name hx H.out.inv.hs
      have hzb : (z.1 == []) = false := by rw [beq_eq_false_iff_ne]; exact hzn
      have HR := (show Hid _ from And.intro hr hm)
      clear hx hr hm hzn
      unfold hdV
      simp only [Option.getD_some]
      go_wp2
      go_ret
      have hba : Below w1.heap.size w1 (w1.alloc (.cells #[.string ⟨z.1.toArray⟩, .string ⟨z.2.toArray⟩] 31)) := (Below.refl _ _).alloc (Nat.le_refl _) _
      exact NxR.go HS.out rfl (HR.out.1.below hba) ((HR.out.2.toBl H.out.rb.lt).trans (hba.mono (Nat.le_of_lt HR.out.1.rb.lt)))
end Go.Proofs.YtmodmeabjhaklabGreatDoor
