/-
  The document's reader: white, skip, eat.
-/
import Derived.Test.YtohkocknpmnakaaGreatDoorAwk
namespace Go.Proofs.YtohkocknpmnakaaGreatDoor
open Go.RowKit

/-- The document's reader: its text, where it stands, whether it is bad. -/
def Rr (w : World) (p : Nat) (l : List UInt8) (k : Nat) (bad : Bool) : Prop := w.heap[p]? = some (.cells #[.string ⟨l.toArray⟩, .int .i64 (k : Int), .bool bad] 59 (0, 0))
theorem Rr.keep {F : Nat → Prop} {w w' : World} {p k : Nat} {l : List UInt8} {b : Bool} (h : Rr w p l k b) (hm : Md F w w') (hF : ¬ F p) : Rr w' p l k b := keep_blk h hm hF
theorem Rr.cells {w : World} {p k : Nat} {l : List UInt8} {b : Bool} (h : Rr w p l k b) : (w.cell? ⟨p, 0, none⟩ = some (.string ⟨l.toArray⟩) ∧ w.cell? ⟨p, 1, none⟩ = some (.int .i64 (k : Int)) ∧ w.cell? ⟨p, 2, none⟩ = some (.bool b)) ∧ w.frozen? ⟨p, 0, none⟩ = false ∧ w.frozen? ⟨p, 1, none⟩ = false ∧ w.frozen? ⟨p, 2, none⟩ = false :=
  ⟨⟨cell_blk h 0, cell_blk h 1, cell_blk h 2⟩, frozen_blk h 0, frozen_blk h 1, frozen_blk h 2⟩
theorem Rr.at {w : World} {p k : Nat} {l : List UInt8} {b : Bool} (h : Rr w p l k b) (j : Nat) : Rr (w.setCell ⟨p, 1, none⟩ (.int .i64 (j : Int))) p l j b := (set_blk h 1 _).trans rfl
theorem Rr.bad {w : World} {p k : Nat} {l : List UInt8} {b : Bool} (h : Rr w p l k b) (c : Bool) : Rr (w.setCell ⟨p, 2, none⟩ (.bool c)) p l k c := (set_blk h 2 _).trans rfl

theorem white_ref (c : Int) (w : World) (_h0 : 0 ≤ c) (_h1 : c ≤ 255) :
    Calls Tryz.prog 62 #[.int .u8 c] w fun e w' => e = .returned (.bool (wsZ c)) ∧ w' = w := by
  go_enter Tryz.func62, Tryz.ntmps62
  go_wp2
  all_goals
    go_ret
    exact ⟨ret_bool (by rw [Bool.eq_iff_iff]; simp [wsZ]; try omega), rfl⟩

set_option maxRecDepth 20000 in
set_option maxHeartbeats 1600000 in
theorem eat_ref (p k : Nat) (l q : List UInt8) (b : Bool) (w : World) (h : Rr w p l k b) (hk : k ≤ l.length) (hl : l.length ≤ 65536) (hq : q.length ≤ 65536) :
    Calls Tryz.prog 63 #[.pointer (some ⟨p, 0, none⟩), .string ⟨q.toArray⟩] w fun e w' => e = .returned (.bool (Lib.hasPrefix (l.drop k) q)) ∧ Rr w' p l (if Lib.hasPrefix (l.drop k) q then k + q.length else k) b ∧ Md (fun b => b = p) w w' := by
  obtain ⟨⟨c0, c1, -⟩, -, f1, -⟩ := h.cells
  have HR : Hid (Rr w p l k b) := h
  obtain ⟨s, hs⟩ : ∃ s : ByteArray, s = ⟨l.toArray⟩ := ⟨_, rfl⟩
  rw [← hs] at c0
  have hsz : s.size = l.length := by rw [hs, mk_size]
  have hx : s.extract k s.size = ⟨(l.drop k).toArray⟩ := by rw [hs, mk_ext, mk_size, List.take_length]
  have hks : (k : Int) ≤ (s.size : Int) := by omega
  have hsl : s.size ≤ 65536 := by omega
  have KB := (show Hid (∀ W, Calls Tryz.prog 61 #[.string ⟨(l.drop k).toArray⟩, .string ⟨q.toArray⟩] W fun e w' => e = .returned (.bool (Lib.hasPrefix (l.drop k) q)) ∧ w' = W) from fun W => (begins_any (l.drop k) q W (by simp; omega) (by omega)).mono fun e w' h => ⟨h.1, h.2.symm⟩)
  have hqz : (⟨q.toArray⟩ : ByteArray).size = q.length := mk_size q
  clear hs h hsz
  cases hb : Lib.hasPrefix (l.drop k) q with
  | false =>
    rw [hb] at KB
    clear hb
    go_enter Tryz.func63, Tryz.ntmps63
    go_wp2
    go_quiet ((go_at_call 61; exact Calls.quiet_of_same (KB.out _)))
    go_wp2
    go_ret
    exact ⟨rfl, HR.out.keep (Md.ofBelow (F := fun _ => False) (below_drewN (Below.refl _ _) _)) (fun h => h), Md.ofBelow (below_drewN (Below.refl _ _) _)⟩
  | true =>
    rw [hb] at KB
    clear hb
    go_enter Tryz.func63, Tryz.ntmps63
    go_wp2
    go_quiet ((go_at_call 61; exact Calls.quiet_of_same (KB.out _)))
    go_wp2
    go_ret
    have e1 : ((k : Int) + (q.length : Int)) = ((k + q.length : Nat) : Int) := by omega
    refine ⟨rfl, ?_, (Md.ofBelow (F := fun b => b = p) (below_drewN (Below.refl _ _) _)).set (.inl rfl) _ _⟩
    rw [e1]
    exact (HR.out.keep (Md.ofBelow (F := fun _ => False) (below_drewN (Below.refl _ _) _)) (fun h => h)).at (k + q.length)

theorem skp_cons {c : UInt8} {r : List UInt8} (h : wsB c = true) : skp (c :: r) = skp r := by
  unfold skp
  rw [List.dropWhile_cons_of_pos h]
theorem skp_stop {c : UInt8} {r : List UInt8} (h : wsB c = false) : skp (c :: r) = c :: r := by
  unfold skp
  rw [List.dropWhile_cons_of_neg (by rw [h]; decide)]
/-- How far skip goes. -/
def SkR (l : List UInt8) (k p : Nat) (b : Bool) (w : World) (e : Ending) (w' : World) : Prop :=
  ∃ k', e = .returned (.int .i64 ((k' - k : Nat) : Int)) ∧ k ≤ k' ∧ k' ≤ l.length ∧ l.drop k' = skp (l.drop k) ∧ Rr w' p l k' b ∧ Md (fun b => b = p) w w'
set_option maxRecDepth 20000 in
set_option maxHeartbeats 1600000 in
theorem skip_ref (p k : Nat) (l : List UInt8) (b : Bool) (w : World) (h : Rr w p l k b) (hk : k ≤ l.length) (hl : l.length ≤ 65536) :
    Calls Tryz.prog 32 #[.pointer (some ⟨p, 0, none⟩)] w fun e w' => SkR l k p b w e w' := by
  have HR0 : Hid (Rr w p l k b) := h
  obtain ⟨s, hs⟩ : ∃ s : ByteArray, s = ⟨l.toArray⟩ := ⟨_, rfl⟩
  have HS : Hid (s = ⟨l.toArray⟩ ∧ s.size = l.length) := ⟨hs, by rw [hs, mk_size]⟩
  have hsz : l.length = s.size := HS.out.2.symm
  clear hs h
  go_enter Tryz.func32, Tryz.ntmps32
  go_wp2
  go_loopw [3] (fun v wx => ∃ j : Nat, k + j ≤ l.length ∧ v = .int .i64 j ∧ skp (l.drop (k + j)) = skp (l.drop k) ∧ Rr wx p l (k + j) b ∧ Md (fun b => b = p) w wx) (fun v _ => l.length - (intOf v).toNat)
  case atStart => exact ⟨0, by omega, rfl, rfl, HR0.out, Md.refl _ _⟩
  case round =>
    obtain ⟨j, hj, rfl, hsk, hr, hmd⟩ := hrel
    obtain ⟨⟨c0, c1, -⟩, -, f1, -⟩ := hr.cells
    rw [← HS.out.1] at c0
    have HRR : Hid (Rr wr p l (k + j) b ∧ Md (fun b => b = p) w wr ∧ skp (l.drop (k + j)) = skp (l.drop k)) := ⟨hr, hmd, hsk⟩
    clear hr hmd hsk
    obtain ⟨a, ha⟩ : ∃ a, a = k + j := ⟨_, rfl⟩
    rw [← ha] at c1 HRR hj
    have HA : Hid (a = k + j) := ha
    have hak : k ≤ a := by omega
    clear ha
    by_cases hlt : a < s.size
    · have hal : a < l.length := by omega
      have HJ : Hid (k + (j + 1) ≤ l.length ∧ j < l.length) := by
        have ha := HA.out
        exact ⟨by omega, by omega⟩
      have hjl : j < 65536 := by have := HJ.out.2; omega
      have hai : (a : Int) < (s.size : Int) := by omega
      have hgd : decide ((a : Int) < (s.size : Int)) = true := decide_eq_true hai
      have hsc : s[a] = l[a] := by
        have e : ∀ (t : ByteArray) (h : t = ⟨l.toArray⟩) (hk : a < t.size), t[a] = l[a] := by
          rintro t rfl hk
          rfl
        exact e s HS.out.1 hlt
      have hd : l.drop a = l[a] :: l.drop (a + 1) := (List.getElem_cons_drop ..).symm
      have KW := (show Hid (∀ W, Calls Tryz.prog 62 #[.int .u8 (s[a].toNat : Int)] W fun e w' => e = .returned (.bool (wsB l[a])) ∧ w' = W) from fun W => by
        rw [hsc]
        exact white_ref _ W (by omega) (by have := l[a].toNat_lt; omega))
      cases hw : wsB l[a] with
      | true =>
        rw [hw] at KW
        have HN : Hid (skp (l.drop (a + 1)) = skp (l.drop k)) := by
          show _ = _
          rw [← HRR.out.2.2, hd, skp_cons hw]
        clear hd hw hsc
        go_wp2
        go_quiet ((go_at_call 62; exact Calls.quiet_of_same (KW.out _)))
        go_wp2
        go_roundw
        case rel =>
          have ha := HA.out
          refine ⟨j + 1, HJ.out.1, by go_num, ?_, ?_, ?_⟩
          · rw [← HN.out, ha]; rfl
          · have e1 : ((a : Int) + 1) = ((k + (j + 1) : Nat) : Int) := by omega
            rw [e1]
            exact (HRR.out.1.keep (Md.ofBelow (F := fun _ => False) (below_drewN (Below.refl _ _) _)) (fun h => h)).at _
          · exact ((HRR.out.2.1.below (below_drewN (Below.refl _ _) _))).set (.inl rfl) _ _
        case measure => have hj2 := HJ.out.2; simp [intOf]; omega
      | false =>
        rw [hw] at KW
        have HN : Hid (l.drop a = skp (l.drop k)) := by
          show _ = _
          rw [← HRR.out.2.2, hd, skp_stop hw]
        clear hd hw hsc
        go_wp2
        go_quiet ((go_at_call 62; exact Calls.quiet_of_same (KW.out _)))
        go_wp2
        go_ret
        exact ⟨a, ret_int (by have ha := HA.out; omega), by omega, by omega, HN.out, HRR.out.1.keep (Md.ofBelow (F := fun _ => False) (below_drewN (Below.refl _ _) _)) (fun h => h), HRR.out.2.1.below (below_drewN (Below.refl _ _) _)⟩
    · have hai : ¬ (a : Int) < (s.size : Int) := by omega
      have hgd : decide ((a : Int) < (s.size : Int)) = false := decide_eq_false hai
      have HN : Hid (l.drop a = skp (l.drop k)) := by
        show _ = _
        have h0 : l.drop a = [] := List.drop_eq_nil_of_le (by omega)
        rw [← HRR.out.2.2, h0]
        rfl
      go_wp2
      go_quiet (fail)
      go_wp2
      go_ret
      exact ⟨a, ret_int (by have ha := HA.out; omega), by omega, by omega, HN.out, HRR.out.1.keep (Md.ofBelow (F := fun _ => False) (below_drewN (Below.refl _ _) _)) (fun h => h), HRR.out.2.1.below (below_drewN (Below.refl _ _) _)⟩
end Go.Proofs.YtohkocknpmnakaaGreatDoor
