/-
  The document's Unpack by its contract.
-/
import Derived.Test.YtecljiefljgfmaaRun04
namespace Go.Proofs.Ytecljiefljgfmaa
open Go.RowKit

def nb (l : List UInt8) (p : Nat) : Int := ((l.getD p 0).toNat : Int)
theorem nb_bd (l : List UInt8) (p : Nat) : 0 ≤ nb l p ∧ nb l p ≤ 255 := by have := (l.getD p 0).toNat_lt; unfold nb; omega
theorem nb_cell {l : List UInt8} {p : Nat} (h : p < l.length) : (l[p].toNat : Int) = nb l p := by rw [nb, getD_nat h]
theorem vl_drop (l : List UInt8) (p : Nat) : nb l p * 16777216 + nb l (p + 1) * 65536 + nb l (p + 2) * 256 + nb l (p + 3) = (vl (l.drop p) 4 : Nat) := by
  have h : ∀ j, ((l.drop p).getD j 0) = l.getD (p + j) 0 := fun j => by simp [List.getD]
  simp only [vl, h, nb, Nat.add_zero]
  omega

set_option maxHeartbeats 2000000 in
set_option maxRecDepth 20000 in
theorem refUnpack_any (a : Option Addr) (l : List UInt8) (cap : Nat) (w : World) (hr : l.length ≤ 8388608) (hcap : l.length ≤ cap) (hb : Bytes w a l) :
    Calls Try.prog 80 #[.slice a l.length cap] w fun e w' => ∃ v, e = .returned (.tuple #[v, .bool (uOk l)]) ∧ OwnS w' w.heap.size v (uL l) ∧ Below w.heap.size w w' := by
  obtain ⟨i0, hi, hz0, hz1, hz2⟩ := info_parts info9
  go_enter Try.func80, Try.ntmps80
  go_wp2
  go_loopw [4, 5] (fun v i wr => ∃ (acc : List ByteArray) (p : Nat), i = .int .i64 p ∧ p ≤ l.length ∧ 4 * acc.length ≤ p ∧ unp (l.length + 1) l = (unp ((l.drop p).length + 1) (l.drop p)).map (acc ++ ·) ∧
      OwnS wr w.heap.size v acc ∧ Below w.heap.size w wr)
    (fun _ i _ => l.length - (intOf i).toNat)
  case atStart => exact ⟨[], 0, rfl, Nat.zero_le _, by simp, by simp, World.ownsRow_nil _ _ _ _, Below.refl _ _⟩
  case round =>
    obtain ⟨acc, p, rfl, hpl, hal, hunp, hown, hnx⟩ := hrel
    have HU : Hid (unp (l.length + 1) l = (unp ((l.drop p).length + 1) (l.drop p)).map (acc ++ ·)) := hunp
    have HN : Hid ((l.drop p).length = l.length - p) := by show _ = _; simp
    clear hunp
    have hsz := hnx.size
    by_cases h0 : p < l.length
    · by_cases h4 : l.length < p + 4
      · have hno : Hid (unp (l.length + 1) l = none) := by
          show _ = _
          rw [HU.out, unp_short (by rw [HN.out]; omega) (by rw [HN.out]; omega)]
          rfl
        go_wp2
        go_ret2
        exact ⟨_, ret_vb (by rw [uOk, hno.out]; rfl), ownS_nil _ _ (by rw [uL, hno.out]; rfl), hnx⟩
      · obtain ⟨b, off, rfl, hbb, hcs⟩ := hb.at (k := 0) (by omega)
        have hbw : Bytes wr (some ⟨b, off, none⟩) l := hb.below hnx (Nat.le_refl _)
        have hc : ∀ j (h : j < l.length), wr.cell? ⟨b, off + j, none⟩ = some (.int .u8 (nb l j)) := fun j h => by
          rw [hnx.cell (p := ⟨b, off + j, none⟩) hbb, hcs j h, nb_cell h]
        have c0 := hc p (by omega)
        have c1 := hc (p + 1) (by omega)
        have c2 := hc (p + 2) (by omega)
        have c3 := hc (p + 3) (by omega)
        have n0 := nb_bd l p
        have n1 := nb_bd l (p + 1)
        have n2 := nb_bd l (p + 2)
        have n3 := nb_bd l (p + 3)
        have k3 : (p : Int) + 3 < (l.length : Int) := by omega
        have HV : Hid (nb l p * 16777216 + nb l (p + 1) * 65536 + nb l (p + 2) * 256 + nb l (p + 3) = (vl (l.drop p) 4 : Nat)) := vl_drop l p
        have hv4 := vl4_bd (l.drop p)
        clear hc hcs
        go_wp2_with fail
        go_quiet (fail)
        clear c0 c1 c2 c3 n0 n1 n2 n3
        rw [HV.out]
        by_cases hlong : l.length - (p + 4) < vl (l.drop p) 4
        · have hno : Hid (unp (l.length + 1) l = none) := by
            show _ = _
            rw [HU.out, unp_long (by rw [HN.out]; omega) (by rw [HN.out]; omega)]
            rfl
          clear hbw
          go_wp2
          go_ret2
          exact ⟨_, ret_vb (by rw [uOk, hno.out]; rfl), ownS_nil _ _ (by rw [uL, hno.out]; rfl), below_drewN hnx _⟩
        · have hfit : vl (l.drop p) 4 ≤ l.length - (p + 4) := by omega
          have HF : Hid (vl (l.drop p) 4 ≤ (l.drop p).length - 4) := by
            show _ ≤ _
            rw [HN.out]
            omega
          by_cases hcp : cap = p + 4
          · have HW : Hid (Bytes wr (some ⟨b, off, none⟩) ((l.drop p).drop 4)) := .inl (by rw [List.drop_drop]; exact List.drop_eq_nil_of_le (by omega))
            subst hcp
            have hcv := conv_piece (wr.drewN nq) (some ⟨b, off, none⟩) (p + 4 - (p + 4)) (l.drop p) HF.out (HW.out.drewN nq)
            have hown' : (wr.drewN nq).ownsRow w.heap.size 9 1 u4 acc.length (acc.map Value.string) := hown
            simp only [Nat.sub_self] at hcv
            clear hbw hlong
            go_wp2_with (at_builtin; refine wpList_append_own _ rfl (.tmp 53) (.tmp 61) 40 rfl w.heap.size 9 i0 (.string ⟨#[]⟩) 1 16 Try.underlying40 hi hz0 hz1 hz2 rfl (by decide) _ _ _ rfl (hown'.alloc _) ⟨wr.heap.size, 0, none⟩ 1 1 [.string (piece (l.drop p))] rfl rfl ?c1a ?c2a ?c3a ?c4a ?c5a ?_)
            case c1a => exact cell_one_new (wr.drewN nq) _ _
            case c2a => exact one_one _ rfl
            case c3a => unfold maxLen; omega
            case c4a => omega
            case c5a => simp; omega
            intro v' w1 hown1 hgrow1 _
            have R : OwnS w1 w.heap.size v' (acc ++ [piece (l.drop p)]) := by
              unfold OwnS
              rw [List.length_append, List.map_append]
              exact hown1
            have hB1 : Below w.heap.size w w1 := ((below_drewN hnx nq).alloc hsz _).grown hgrow1 (by simp; omega) (fun j hj => (World.ownsRow.lt hown' j hj).1)
            clear hown1 hgrow1 hown' hcv hown
            go_wp2
            go_roundw
            case rel =>
              refine ⟨acc ++ [piece (l.drop p)], p + 4 + vl (l.drop p) 4, by go_num, by omega, by simp; omega, ?_, R, hB1⟩
              rw [HU.out, unp_step (by rw [HN.out]; omega) HF.out, Option.map_map, List.drop_drop, ← Nat.add_assoc]
              congr 1
              funext x
              simp
            case measure => simp [intOf]; omega
          · have HW : Hid (Bytes wr (some ⟨b, off + (p + 4), none⟩) ((l.drop p).drop 4)) := by
              have := hbw.drop (p + 4)
              rw [List.drop_drop]
              exact this
            have hcv := conv_piece (wr.drewN nq) (some ⟨b, off + (p + 4), none⟩) (cap - (p + 4)) (l.drop p) HF.out (HW.out.drewN nq)
            have hown' : (wr.drewN nq).ownsRow w.heap.size 9 1 u4 acc.length (acc.map Value.string) := hown
            clear hbw hlong
            go_wp2_with (at_builtin; refine wpList_append_own _ rfl (.tmp 53) (.tmp 61) 40 rfl w.heap.size 9 i0 (.string ⟨#[]⟩) 1 16 Try.underlying40 hi hz0 hz1 hz2 rfl (by decide) _ _ _ rfl (hown'.alloc _) ⟨wr.heap.size, 0, none⟩ 1 1 [.string (piece (l.drop p))] rfl rfl ?c1b ?c2b ?c3b ?c4b ?c5b ?_)
            case c1b => exact cell_one_new (wr.drewN nq) _ _
            case c2b => exact one_one _ rfl
            case c3b => unfold maxLen; omega
            case c4b => omega
            case c5b => simp; omega
            intro v' w1 hown1 hgrow1 _
            have R : OwnS w1 w.heap.size v' (acc ++ [piece (l.drop p)]) := by
              unfold OwnS
              rw [List.length_append, List.map_append]
              exact hown1
            have hB1 : Below w.heap.size w w1 := ((below_drewN hnx nq).alloc hsz _).grown hgrow1 (by simp; omega) (fun j hj => (World.ownsRow.lt hown' j hj).1)
            clear hown1 hgrow1 hown' hcv hown
            go_wp2
            go_roundw
            case rel =>
              refine ⟨acc ++ [piece (l.drop p)], p + 4 + vl (l.drop p) 4, by go_num, by omega, by simp; omega, ?_, R, hB1⟩
              rw [HU.out, unp_step (by rw [HN.out]; omega) HF.out, Option.map_map, List.drop_drop, ← Nat.add_assoc]
              congr 1
              funext x
              simp
            case measure => simp [intOf]; omega
    · have hn0 : Hid ((l.drop p).length = 0) := by show _ = _; simp; omega
      have hyes : Hid (unp (l.length + 1) l = some acc) := by
        show _ = _
        rw [HU.out, unp_nil hn0.out]
        simp
      go_wp2
      go_ret2
      exact ⟨_, ret_vb (by rw [uOk, hyes.out]; rfl), by rw [uL, hyes.out]; exact hown, hnx⟩
end Go.Proofs.Ytecljiefljgfmaa
