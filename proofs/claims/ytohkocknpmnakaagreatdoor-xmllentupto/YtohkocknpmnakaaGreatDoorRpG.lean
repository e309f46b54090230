/-
  The document's reader: prolog.
-/
import Derived.Test.YtohkocknpmnakaaGreatDoorRpE
import Derived.Lib.IndexLaws
namespace Go.Proofs.YtohkocknpmnakaaGreatDoor
open Go.RowKit

def preL : List UInt8 := [60, 63, 120, 109, 108]
/-- How prolog ends: at the element, or at what is none, or bad. -/
def PrO (l : List UInt8) (p : Nat) (w : World) (e : Ending) (w' : World) : Prop :=
  ∃ z r, e = .returned (.bool r) ∧ Rr w' p l z false ∧ z ≤ l.length ∧ Md (fun b => b = p) w w' ∧ ((r = true ∧ (declL l = some (l.drop z) ∨ (declL l = none ∧ elemF une 16 (skp (l.drop z)) = none))) ∨ (r = false ∧ declL l = none))
theorem pre_none {l : List UInt8} (h : Lib.hasPrefix l preL = false) : declL l = some l := by
  have he : eat [60, 63, 120, 109, 108] l = none := by
    unfold eat
    rw [if_neg]
    intro e
    rw [show Lib.hasPrefix l [60, 63, 120, 109, 108] = Lib.hasPrefix l preL from rfl, h] at e
    cases e
  unfold declL
  rw [he]
theorem pre_elem {l : List UInt8} (h : Lib.hasPrefix l preL = true) : elemF une 16 (skp l) = none := by
  obtain ⟨r, rfl⟩ := (hasPrefix_iff _ _).1 h
  rw [show preL ++ r = 60 :: 63 :: 120 :: 109 :: 108 :: r from rfl, skp_stop (by decide)]
  simp only [elemF]
  have he : eat [60] (60 :: 63 :: 120 :: 109 :: 108 :: r) = some (63 :: 120 :: 109 :: 108 :: r) := by simp [eat, Lib.hasPrefix]
  rw [he, Option.bind_some, if_pos (nm_no (by decide))]
theorem pre_eq {l : List UInt8} (h : Lib.hasPrefix l preL = true) : declL l = match l.drop 5 with | [] => none | c :: r => if wsB c ∨ c = 63 then (if (Lib.cut (c :: r) [63, 62]).2.2 then some (Lib.cut (c :: r) [63, 62]).2.1 else none) else none := by
  have he : eat [60, 63, 120, 109, 108] l = some (l.drop 5) := by
    unfold eat
    rw [if_pos (show Lib.hasPrefix l [60, 63, 120, 109, 108] = true from h)]
    rfl
  unfold declL
  rw [he]
  cases l.drop 5 <;> rfl
/-- Where the declaration is one. -/
theorem pre_cut {l : List UInt8} (h : Lib.hasPrefix l preL = true) (h6 : 5 < l.length) (hc : wsB l[5] = true ∨ l[5] = 63) : declL l = if (0 : Int) ≤ Lib.index (l.drop 5) [63, 62] then some ((l.drop 5).drop ((Lib.index (l.drop 5) [63, 62]).toNat + 2)) else none := by
  rw [pre_eq h]
  have hd : l.drop 5 = l[5] :: l.drop 6 := (List.getElem_cons_drop ..).symm
  rw [hd]
  simp only [hc, if_true]
  by_cases hi : (0 : Int) ≤ Lib.index (l[5] :: l.drop 6) [63, 62]
  · have hcut : Lib.cut (l[5] :: l.drop 6) [63, 62] = ((l[5] :: l.drop 6).take (Lib.index (l[5] :: l.drop 6) [63, 62]).toNat, (l[5] :: l.drop 6).drop ((Lib.index (l[5] :: l.drop 6) [63, 62]).toNat + 2), true) := if_pos hi
    rw [hcut, if_pos hi]
    rfl
  · have hcut : Lib.cut (l[5] :: l.drop 6) [63, 62] = (l[5] :: l.drop 6, [], false) := if_neg hi
    rw [hcut, if_neg hi]
    rfl
theorem pre_odd {l : List UInt8} (h : Lib.hasPrefix l preL = true) (hc : ∀ h6 : 5 < l.length, wsB l[5] = false ∧ l[5] ≠ 63) : declL l = none := by
  rw [pre_eq h]
  by_cases h6 : 5 < l.length
  · have hd : l.drop 5 = l[5] :: l.drop 6 := (List.getElem_cons_drop ..).symm
    rw [hd]
    simp only [(hc h6).1, (hc h6).2]
    rfl
  · rw [List.drop_eq_nil_of_le (by omega)]
theorem occ_at {l : List UInt8} {y : Nat} (h5 : 5 ≤ y) (hy : y + 1 < l.length) : Lib.occAt (l.drop 5) [63, 62] (y - 5) = (l[y] == 63 && l[y + 1] == 62) := by
  unfold Lib.occAt
  rw [List.drop_drop, show 5 + (y - 5) = y by omega, List.drop_eq_getElem_cons (by omega), List.drop_eq_getElem_cons (by omega)]
  simp [List.isPrefixOf, Bool.beq_eq_decide_eq, eq_comm]

set_option maxRecDepth 20000 in
set_option maxHeartbeats 3200000 in
theorem prolog_ref (p : Nat) (l : List UInt8) (w : World) (h : Rr w p l 0 false) (hl : l.length ≤ 65536) :
    Calls Tryz.prog 31 #[.pointer (some ⟨p, 0, none⟩)] w fun e w' => PrO l p w e w' := by
  obtain ⟨s, hs⟩ : ∃ s : ByteArray, s = ⟨l.toArray⟩ := ⟨_, rfl⟩
  have HS : Hid (s = ⟨l.toArray⟩ ∧ s.size = l.length) := ⟨hs, by rw [hs, mk_size]⟩
  have hsz : l.length = s.size := HS.out.2.symm
  have HR : Hid (Rr w p l 0 false) := h
  have KB := (show Hid (∀ W, Calls Tryz.prog 61 #[.string s, .string ⟨#[60, 63, 120, 109, 108]⟩] W fun e w' => e = .returned (.bool (Lib.hasPrefix l preL)) ∧ w' = W) from fun W => by
    rw [hs]
    exact (begins_any l preL W (by omega) (by decide)).mono fun e w' h => ⟨h.1, h.2.symm⟩)
  obtain ⟨⟨c0, c1, -⟩, -, f1, -⟩ := h.cells
  rw [← hs] at c0
  have hss : s.size ≤ 65536 := by omega
  clear hs h
  cases hp : Lib.hasPrefix l preL with
  | false =>
    rw [hp] at KB
    have HZ : Hid (declL l = some (l.drop 0)) := pre_none hp
    clear hp
    go_enter Tryz.func31, Tryz.ntmps31
    go_wp2_with (first | (go_at_call 61; refine (KB.out _).mono ?_; rintro e w' ⟨rfl, hww⟩; rw [hww]; clear hww))
    go_ret
    exact ⟨0, true, rfl, HR.out, Nat.zero_le _, Md.refl _ _, .inl ⟨rfl, .inl HZ.out⟩⟩
  | true =>
    rw [hp] at KB
    have HP : Hid (Lib.hasPrefix l preL = true) := hp
    clear hp
    by_cases h6 : 5 < l.length
    · have h6s : 5 < s.size := by omega
      have h6n : ¬ s.size < 6 := by omega
      have h6d : decide ((s.size : Int) < 6) = false := decide_eq_false (by omega)
      have h6D : decide (s.size < 6) = false := decide_eq_false h6n
      have h0 := at_ba s l HS.out.1 5 h6s h6
      have KW := (show Hid (∀ W, Calls Tryz.prog 62 #[.int .u8 (s[5].toNat : Int)] W fun e w' => e = .returned (.bool (wsB l[5])) ∧ w' = W) from fun W => by
        rw [h0]
        exact white_ref _ W (by omega) (by have := l[5].toNat_lt; omega))
      cases hw : wsB l[5] with
      | true =>
        rw [hw] at KW
        have HCC : Hid (wsB l[5] = true ∨ l[5] = 63) := .inl hw
        clear hw h0
        have hst : Rr (w.setCell ⟨p, 1, none⟩ (.int .i64 5)) p l 5 false := HR.out.at 5
        have HD : Hid (declL l = if (0 : Int) ≤ Lib.index (l.drop 5) [63, 62] then some ((l.drop 5).drop ((Lib.index (l.drop 5) [63, 62]).toNat + 2)) else none) := pre_cut HP.out h6 HCC.out
        have H5 : Hid (Rr (w.setCell ⟨p, 1, none⟩ (.int .i64 5)) p l 5 false ∧ Md (fun b => b = p) w (w.setCell ⟨p, 1, none⟩ (.int .i64 5))) := ⟨hst, (Md.refl (fun b => b = p) w).set (.inl rfl) _ _⟩
        obtain ⟨w5, hw5⟩ : ∃ w5, w5 = w.setCell ⟨p, 1, none⟩ (.int .i64 5) := ⟨_, rfl⟩
        rw [← hw5] at H5
        clear hst
        go_enter Tryz.func31, Tryz.ntmps31
        go_wp2_with (first | (go_at_call 61; refine (KB.out _).mono ?_; rintro e w' ⟨rfl, hww⟩; rw [hww]; clear hww) | (go_at_call 62; refine (KW.out _).mono ?_; rintro e w' ⟨rfl, hww⟩; rw [hww]; clear hww))
        rw [← hw5]
        clear hw5 c0 c1 f1 KB KW
        go_loopg [] l.length (fun gf wx => ∃ y : Nat, 5 ≤ y ∧ y ≤ l.length ∧ l.length ≤ y + gf ∧ Lib.NoOcc (l.drop 5) [63, 62] (y - 5) ∧ Rr wx p l y false ∧ Md (fun b => b = p) w wx)
        case atStart => exact ⟨5, Nat.le_refl _, by omega, by omega, Lib.NoOcc.zero _ _, H5.out.1, H5.out.2⟩
        case round =>
          obtain ⟨y, hy5, hyl, hgf, hno, hr, hmd⟩ := hrel
          obtain ⟨⟨c0, c1, -⟩, -, f1, -⟩ := hr.cells
          rw [← HS.out.1] at c0
          have HY : Hid (Rr wr p l y false ∧ Md (fun b => b = p) w wr ∧ Lib.NoOcc (l.drop 5) [63, 62] (y - 5)) := ⟨hr, hmd, hno⟩
          have hy6 : y ≤ 65536 := by omega
          have hiw : IntKind.i64.wrap ((y : Int) + 1) = (y : Int) + 1 := by rw [IntKind.wrap_i64]; omega
          clear hr hmd hno
          by_cases hlt : y + 1 < s.size
          · have hlt0 : y < s.size := by omega
            have hai : (y : Int) + 1 < (s.size : Int) := by omega
            have hgd : decide ((y : Int) + 1 < (s.size : Int)) = true := decide_eq_true hai
            have hgN : decide (y + 1 < s.size) = true := decide_eq_true hlt
            have hi0 : (0 : Int) ≤ (y : Int) + 1 := by omega
            have hi1 : ((y : Int) + 1).toNat = y + 1 := by omega
            have e0 := at_ba s l HS.out.1 y hlt0 (by omega)
            have e1 := at_ba s l HS.out.1 (y + 1) hlt (by omega)
            have hocc := occ_at (l := l) hy5 (by omega)
            have NX : Lib.occAt (l.drop 5) [63, 62] (y - 5) = false → Lib.NoOcc (l.drop 5) [63, 62] (y + 1 - 5) := fun ho j hj => by
              by_cases hje : j = y - 5
              · rw [hje]; exact ho
              · exact HY.out.2.2 j (by omega)
            obtain ⟨g', rfl⟩ : ∃ g', gk = g' + 1 := ⟨gk - 1, by omega⟩
            by_cases h63 : l[y] = 63
            · have b63 : ((s[y].toNat : Int) == 63) = true := by rw [e0, h63]; rfl
              by_cases h62 : l[y + 1] = 62
              · have b62 : ((s[y + 1].toNat : Int) == 62) = true := by rw [e1, h62]; rfl
                have ho : Lib.occAt (l.drop 5) [63, 62] (y - 5) = true := by rw [hocc, h63, h62]; rfl
                have HZ : Hid (declL l = some (l.drop (y + 2))) := by
                  show _ = _
                  rw [HD.out, Lib.index_hit HY.out.2.2 (by rw [List.length_drop]; omega) ho, if_pos (by omega), List.drop_drop]
                  congr 2
                  omega
                clear e0 e1 hocc NX h63 h62 ho
                go_wp2
                go_quiet (fail)
                go_wp2
                go_quiet (fail)
                go_wp2
                go_ret
                exact ⟨y + 2, true, rfl, (HY.out.1.keep (Md.ofBelow (F := fun _ => False) (below_drewN (Below.refl _ _) _)) (fun h => h)).at (y + 2), by omega, (HY.out.2.1.below (below_drewN (Below.refl _ _) _)).set (.inl rfl) _ _, .inl ⟨rfl, .inl HZ.out⟩⟩
              · have b62 : ((s[y + 1].toNat : Int) == 62) = false := by
                  rw [e1, beq_eq_false_iff_ne]
                  intro e
                  exact h62 (UInt8.toNat_inj.1 (show l[y + 1].toNat = 62 by omega))
                have HN : Hid (Lib.NoOcc (l.drop 5) [63, 62] (y + 1 - 5)) := NX (by rw [hocc]; simp [h62])
                clear e0 e1 hocc NX h63 h62
                go_wp2
                go_quiet (fail)
                go_wp2
                go_quiet (fail)
                go_wp2
                go_roundg g'
                case measure => omega
                case rel => exact ⟨y + 1, by omega, by omega, by omega, HN.out, (HY.out.1.keep (Md.ofBelow (F := fun _ => False) (below_drewN (Below.refl _ _) _)) (fun h => h)).at (y + 1), (HY.out.2.1.below (below_drewN (Below.refl _ _) _)).set (.inl rfl) _ _⟩
            · have b63 : ((s[y].toNat : Int) == 63) = false := by
                rw [e0, beq_eq_false_iff_ne]
                intro e
                exact h63 (UInt8.toNat_inj.1 (show l[y].toNat = 63 by omega))
              have HN : Hid (Lib.NoOcc (l.drop 5) [63, 62] (y + 1 - 5)) := NX (by rw [hocc]; simp [h63])
              clear e0 e1 hocc NX h63
              go_wp2
              go_quiet (fail)
              go_wp2
              go_quiet (fail)
              go_wp2
              go_roundg g'
              case measure => omega
              case rel => exact ⟨y + 1, by omega, by omega, by omega, HN.out, (HY.out.1.keep (Md.ofBelow (F := fun _ => False) (below_drewN (Below.refl _ _) _)) (fun h => h)).at (y + 1), (HY.out.2.1.below (below_drewN (Below.refl _ _) _)).set (.inl rfl) _ _⟩
          · have hai : ¬ (y : Int) + 1 < (s.size : Int) := by omega
            have hgd : decide ((y : Int) + 1 < (s.size : Int)) = false := decide_eq_false hai
            have hgN : decide (y + 1 < s.size) = false := decide_eq_false hlt
            have HZ : Hid (declL l = none) := by
              show _ = _
              rw [HD.out, Lib.index_past (by decide) HY.out.2.2 (by simp only [List.length_drop, List.length_cons, List.length_nil]; omega), if_neg (by decide)]
            go_wp2
            go_quiet (fail)
            go_wp2
            go_ret
            exact ⟨y, false, rfl, HY.out.1.keep (Md.ofBelow (F := fun _ => False) (below_drewN (Below.refl _ _) _)) (fun h => h), hyl, HY.out.2.1.below (below_drewN (Below.refl _ _) _), .inr ⟨rfl, HZ.out⟩⟩
      | false =>
        rw [hw] at KW
        by_cases h63 : l[5] = 63
        · have b63 : ((s[5].toNat : Int) != 63) = false := by rw [h0, h63]; rfl
          have HCC : Hid (wsB l[5] = true ∨ l[5] = 63) := .inr h63
          clear hw h0 h63
          have hst : Rr (w.setCell ⟨p, 1, none⟩ (.int .i64 5)) p l 5 false := HR.out.at 5
          have HD : Hid (declL l = if (0 : Int) ≤ Lib.index (l.drop 5) [63, 62] then some ((l.drop 5).drop ((Lib.index (l.drop 5) [63, 62]).toNat + 2)) else none) := pre_cut HP.out h6 HCC.out
          have H5 : Hid (Rr (w.setCell ⟨p, 1, none⟩ (.int .i64 5)) p l 5 false ∧ Md (fun b => b = p) w (w.setCell ⟨p, 1, none⟩ (.int .i64 5))) := ⟨hst, (Md.refl (fun b => b = p) w).set (.inl rfl) _ _⟩
          obtain ⟨w5, hw5⟩ : ∃ w5, w5 = w.setCell ⟨p, 1, none⟩ (.int .i64 5) := ⟨_, rfl⟩
          rw [← hw5] at H5
          clear hst
          go_enter Tryz.func31, Tryz.ntmps31
          go_wp2_with (first | (go_at_call 61; refine (KB.out _).mono ?_; rintro e w' ⟨rfl, hww⟩; rw [hww]; clear hww) | (go_at_call 62; refine (KW.out _).mono ?_; rintro e w' ⟨rfl, hww⟩; rw [hww]; clear hww))
          rw [← hw5]
          clear hw5 c0 c1 f1 KB KW
          go_loopg [] l.length (fun gf wx => ∃ y : Nat, 5 ≤ y ∧ y ≤ l.length ∧ l.length ≤ y + gf ∧ Lib.NoOcc (l.drop 5) [63, 62] (y - 5) ∧ Rr wx p l y false ∧ Md (fun b => b = p) w wx)
          case atStart => exact ⟨5, Nat.le_refl _, by omega, by omega, Lib.NoOcc.zero _ _, H5.out.1, H5.out.2⟩
          case round =>
            obtain ⟨y, hy5, hyl, hgf, hno, hr, hmd⟩ := hrel
            obtain ⟨⟨c0, c1, -⟩, -, f1, -⟩ := hr.cells
            rw [← HS.out.1] at c0
            have HY : Hid (Rr wr p l y false ∧ Md (fun b => b = p) w wr ∧ Lib.NoOcc (l.drop 5) [63, 62] (y - 5)) := ⟨hr, hmd, hno⟩
            have hy6 : y ≤ 65536 := by omega
            have hiw : IntKind.i64.wrap ((y : Int) + 1) = (y : Int) + 1 := by rw [IntKind.wrap_i64]; omega
            clear hr hmd hno
            by_cases hlt : y + 1 < s.size
            · have hlt0 : y < s.size := by omega
              have hai : (y : Int) + 1 < (s.size : Int) := by omega
              have hgd : decide ((y : Int) + 1 < (s.size : Int)) = true := decide_eq_true hai
              have hgN : decide (y + 1 < s.size) = true := decide_eq_true hlt
              have hi0 : (0 : Int) ≤ (y : Int) + 1 := by omega
              have hi1 : ((y : Int) + 1).toNat = y + 1 := by omega
              have e0 := at_ba s l HS.out.1 y hlt0 (by omega)
              have e1 := at_ba s l HS.out.1 (y + 1) hlt (by omega)
              have hocc := occ_at (l := l) hy5 (by omega)
              have NX : Lib.occAt (l.drop 5) [63, 62] (y - 5) = false → Lib.NoOcc (l.drop 5) [63, 62] (y + 1 - 5) := fun ho j hj => by
                by_cases hje : j = y - 5
                · rw [hje]; exact ho
                · exact HY.out.2.2 j (by omega)
              obtain ⟨g', rfl⟩ : ∃ g', gk = g' + 1 := ⟨gk - 1, by omega⟩
              by_cases h63 : l[y] = 63
              · have b63 : ((s[y].toNat : Int) == 63) = true := by rw [e0, h63]; rfl
                by_cases h62 : l[y + 1] = 62
                · have b62 : ((s[y + 1].toNat : Int) == 62) = true := by rw [e1, h62]; rfl
                  have ho : Lib.occAt (l.drop 5) [63, 62] (y - 5) = true := by rw [hocc, h63, h62]; rfl
                  have HZ : Hid (declL l = some (l.drop (y + 2))) := by
                    show _ = _
                    rw [HD.out, Lib.index_hit HY.out.2.2 (by rw [List.length_drop]; omega) ho, if_pos (by omega), List.drop_drop]
                    congr 2
                    omega
                  clear e0 e1 hocc NX h63 h62 ho
                  go_wp2
                  go_quiet (fail)
                  go_wp2
                  go_quiet (fail)
                  go_wp2
                  go_ret
                  exact ⟨y + 2, true, rfl, (HY.out.1.keep (Md.ofBelow (F := fun _ => False) (below_drewN (Below.refl _ _) _)) (fun h => h)).at (y + 2), by omega, (HY.out.2.1.below (below_drewN (Below.refl _ _) _)).set (.inl rfl) _ _, .inl ⟨rfl, .inl HZ.out⟩⟩
                · have b62 : ((s[y + 1].toNat : Int) == 62) = false := by
                    rw [e1, beq_eq_false_iff_ne]
                    intro e
                    exact h62 (UInt8.toNat_inj.1 (show l[y + 1].toNat = 62 by omega))
                  have HN : Hid (Lib.NoOcc (l.drop 5) [63, 62] (y + 1 - 5)) := NX (by rw [hocc]; simp [h62])
                  clear e0 e1 hocc NX h63 h62
                  go_wp2
                  go_quiet (fail)
                  go_wp2
                  go_quiet (fail)
                  go_wp2
                  go_roundg g'
                  case measure => omega
                  case rel => exact ⟨y + 1, by omega, by omega, by omega, HN.out, (HY.out.1.keep (Md.ofBelow (F := fun _ => False) (below_drewN (Below.refl _ _) _)) (fun h => h)).at (y + 1), (HY.out.2.1.below (below_drewN (Below.refl _ _) _)).set (.inl rfl) _ _⟩
              · have b63 : ((s[y].toNat : Int) == 63) = false := by
                  rw [e0, beq_eq_false_iff_ne]
                  intro e
                  exact h63 (UInt8.toNat_inj.1 (show l[y].toNat = 63 by omega))
                have HN : Hid (Lib.NoOcc (l.drop 5) [63, 62] (y + 1 - 5)) := NX (by rw [hocc]; simp [h63])
                clear e0 e1 hocc NX h63
                go_wp2
                go_quiet (fail)
                go_wp2
                go_quiet (fail)
                go_wp2
                go_roundg g'
                case measure => omega
                case rel => exact ⟨y + 1, by omega, by omega, by omega, HN.out, (HY.out.1.keep (Md.ofBelow (F := fun _ => False) (below_drewN (Below.refl _ _) _)) (fun h => h)).at (y + 1), (HY.out.2.1.below (below_drewN (Below.refl _ _) _)).set (.inl rfl) _ _⟩
            · have hai : ¬ (y : Int) + 1 < (s.size : Int) := by omega
              have hgd : decide ((y : Int) + 1 < (s.size : Int)) = false := decide_eq_false hai
              have hgN : decide (y + 1 < s.size) = false := decide_eq_false hlt
              have HZ : Hid (declL l = none) := by
                show _ = _
                rw [HD.out, Lib.index_past (by decide) HY.out.2.2 (by simp only [List.length_drop, List.length_cons, List.length_nil]; omega), if_neg (by decide)]
              go_wp2
              go_quiet (fail)
              go_wp2
              go_ret
              exact ⟨y, false, rfl, HY.out.1.keep (Md.ofBelow (F := fun _ => False) (below_drewN (Below.refl _ _) _)) (fun h => h), hyl, HY.out.2.1.below (below_drewN (Below.refl _ _) _), .inr ⟨rfl, HZ.out⟩⟩
        · have b63 : ((s[5].toNat : Int) != 63) = true := by
            rw [h0, bne_iff_ne]
            intro e
            exact h63 (UInt8.toNat_inj.1 (show l[5].toNat = 63 by omega))
          have HZ : Hid (declL l = none ∧ elemF une 16 (skp (l.drop 0)) = none) := ⟨pre_odd HP.out (fun _ => ⟨hw, h63⟩), pre_elem HP.out⟩
          clear hw h0 h63
          go_enter Tryz.func31, Tryz.ntmps31
          go_wp2_with (first | (go_at_call 61; refine (KB.out _).mono ?_; rintro e w' ⟨rfl, hww⟩; rw [hww]; clear hww) | (go_at_call 62; refine (KW.out _).mono ?_; rintro e w' ⟨rfl, hww⟩; rw [hww]; clear hww))
          go_ret
          exact ⟨0, true, rfl, HR.out, Nat.zero_le _, Md.refl _ _, .inl ⟨rfl, .inr HZ.out⟩⟩
    · have h6n : s.size < 6 := by omega
      have h6d : decide ((s.size : Int) < 6) = true := decide_eq_true (by omega)
      have h6D : decide (s.size < 6) = true := decide_eq_true h6n
      have HZ : Hid (declL l = none ∧ elemF une 16 (skp (l.drop 0)) = none) := ⟨pre_odd HP.out (fun h => absurd h h6), pre_elem HP.out⟩
      go_enter Tryz.func31, Tryz.ntmps31
      go_wp2_with (first | (go_at_call 61; refine (KB.out _).mono ?_; rintro e w' ⟨rfl, hww⟩; rw [hww]; clear hww))
      go_ret
      exact ⟨0, true, rfl, HR.out, Nat.zero_le _, Md.refl _ _, .inl ⟨rfl, .inr HZ.out⟩⟩
end Go.Proofs.YtohkocknpmnakaaGreatDoor
