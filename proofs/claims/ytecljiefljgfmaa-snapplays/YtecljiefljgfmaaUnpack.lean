/-
  enc.Unpack by its contract.
-/
import Derived.Test.YtecljiefljgfmaaVal
import Derived.Test.YtecljiefljgfmaaPack
import Derived.Deep.QuietTactic
import Derived.BigQuiet
namespace Go.Proofs.Ytecljiefljgfmaa
open Go.RowKit

def piece (r : List UInt8) : ByteArray := ⟨((r.drop 4).take (vl r 4)).toArray⟩
/-- What Unpack answers, f rounds at the most. -/
def unp : Nat → List UInt8 → Option (List ByteArray)
  | 0, _ => none
  | f + 1, r => if r.length = 0 then some [] else if r.length < 4 then none else if r.length - 4 < vl r 4 then none else (unp f (r.drop (4 + vl r 4))).map (piece r :: ·)

theorem unp_fuel : ∀ (f g : Nat) (r : List UInt8), r.length < f → r.length < g → unp f r = unp g r
  | 0, _, _, h, _ => by omega
  | _ + 1, 0, _, _, h => by omega
  | f + 1, g + 1, r, h1, h2 => by
    simp only [unp]
    split
    · rfl
    · split
      · rfl
      · split
        · rfl
        · rw [unp_fuel f g (r.drop (4 + vl r 4)) (by simp; omega) (by simp; omega)]
theorem unp_nil {n : Nat} {r : List UInt8} (h : r.length = 0) : unp (n + 1) r = some [] := by simp only [unp, if_pos h]
theorem unp_short {n : Nat} {r : List UInt8} (h0 : r.length ≠ 0) (h : r.length < 4) : unp (n + 1) r = none := by simp only [unp, if_neg h0, if_pos h]
theorem unp_long {n : Nat} {r : List UInt8} (h0 : 4 ≤ r.length) (h : r.length - 4 < vl r 4) : unp (n + 1) r = none := by
  simp only [unp, if_neg (show ¬ r.length = 0 by omega), if_neg (show ¬ r.length < 4 by omega), if_pos h]
theorem unp_step {r : List UInt8} (h0 : 4 ≤ r.length) (h : vl r 4 ≤ r.length - 4) : unp (r.length + 1) r = (unp ((r.drop (4 + vl r 4)).length + 1) (r.drop (4 + vl r 4))).map (piece r :: ·) := by
  rw [unp, if_neg (show ¬ r.length = 0 by omega), if_neg (show ¬ r.length < 4 by omega), if_neg (show ¬ r.length - 4 < vl r 4 by omega)]
  rw [unp_fuel r.length ((r.drop (4 + vl r 4)).length + 1) (r.drop (4 + vl r 4)) (by simp; omega) (by simp)]

def uOk (l : List UInt8) : Bool := (unp (l.length + 1) l).isSome
def uL (l : List UInt8) : List ByteArray := (unp (l.length + 1) l).getD []

/-- A row of texts of the call's own. -/
def OwnS (w : World) (base : Nat) (v : Value) (L : List ByteArray) : Prop := w.ownsRow base 9 1 v L.length (L.map Value.string)
theorem ownS_nil (w : World) (base : Nat) {L : List ByteArray} (h : L = []) : OwnS w base (.slice none 0 0) L := by
  subst h
  exact World.ownsRow_nil _ _ _ _

theorem OwnS.strs {w : World} {base : Nat} {v : Value} {L : List ByteArray} (h : OwnS w base v L) : ∃ a cap, v = .slice a L.length cap ∧ Strs w a L := by
  obtain ⟨hl, ⟨rfl, hn⟩ | ⟨g, cap, cur, rfl, hg, hh, hnc, hcm, hcs, htk⟩⟩ := h
  · exact ⟨none, 0, by rw [hn], .inl (List.eq_nil_of_length_eq_zero hn)⟩
  · refine ⟨_, cap, rfl, .inr ⟨g, 0, rfl, ?_, ?_⟩⟩
    · rcases Nat.lt_or_ge g w.heap.size with h | h
      · exact h
      · rw [Array.getElem?_eq_none h] at hh
        simp at hh
    · intro j hj
      have hown : w.ownsRow base 9 1 (.slice (some ⟨g, 0, none⟩) L.length cap) L.length (L.map Value.string) := ⟨hl, .inr ⟨g, cap, cur, rfl, hg, hh, hnc, hcm, hcs, htk⟩⟩
      have := hown.cellAt j (by omega)
      simp only [Nat.zero_add]
      rw [this]
      simp [List.getElem?_eq_getElem hj]

theorem vl_take (r : List UInt8) (m : Nat) : ∀ k, k ≤ m → vl (r.take m) k = vl r k
  | 0, _ => rfl
  | k + 1, h => by
    rw [vl, vl, vl_take r m k (by omega)]
    have : (r.take m).getD k 0 = r.getD k 0 := by simp [List.getD, show k < m by omega]
    rw [this]
theorem vl4_bd (r : List UInt8) : vl r 4 < 4294967296 := by
  have := vl_bd r 4
  have e : (256 : Nat) ^ 4 = 4294967296 := by decide
  omega

theorem Bytes.take {w : World} {a : Option Addr} {r : List UInt8} (h : Bytes w a r) (k : Nat) : Bytes w a (r.take k) := by
  rcases h with rfl | ⟨b, off, rfl, hb, hc⟩
  · exact .inl (by simp)
  · refine .inr ⟨b, off, rfl, hb, fun j hj => ?_⟩
    have hj' : j < r.length := by simp at hj; omega
    rw [hc j hj']
    simp
theorem Bytes.drop {w : World} {b off : Nat} {r : List UInt8} (h : Bytes w (some ⟨b, off, none⟩) r) (k : Nat) : Bytes w (some ⟨b, off + k, none⟩) (r.drop k) := by
  rcases h with rfl | ⟨b', off', he, hb, hc⟩
  · exact .inl (by simp)
  · simp only [Option.some.injEq, Addr.mk.injEq, and_true] at he
    obtain ⟨rfl, rfl⟩ := he
    refine .inr ⟨b, off + k, rfl, hb, fun j hj => ?_⟩
    have hj' : k + j < r.length := by simp at hj; omega
    rw [show off + k + j = off + (k + j) from by omega, hc (k + j) hj']
    simp
theorem Bytes.cut {w : World} {b off c : Nat} {r : List UInt8} (h : Bytes w (some ⟨b, off, none⟩) r) {k : Nat} (hc : r.length ≤ c) : Bytes w (if c = k then some ⟨b, off, none⟩ else some ⟨b, off + k, none⟩) (r.drop k) := by
  split
  · exact .inl (List.drop_eq_nil_of_le (by omega))
  · exact h.drop k
theorem Bytes.drewN {w : World} {a : Option Addr} {r : List UInt8} (h : Bytes w a r) (n : Nat) : Bytes (w.drewN n) a r := h

theorem number4 (a : Option Addr) (r : List UInt8) (c : Nat) (w : World) (h : 4 ≤ r.length) (hb : Bytes w a r) :
    Calls Try.prog 94 #[.slice a 4 c] w fun e w' => e = .returned (.int .u64 (vl r 4 : Nat)) ∧ w' = w := by
  have hl : (r.take 4).length = 4 := by simp; omega
  have := number_any a (r.take 4) c w (by omega) (hb.take 4)
  rw [hl, vl_take r 4 4 (Nat.le_refl _)] at this
  exact this.mono fun _ _ h => ⟨h.1, h.2.symm⟩

theorem conv_piece (w : World) (a : Option Addr) (c : Nat) (r : List UInt8) (h : vl r 4 ≤ r.length - 4) (hb : Bytes w a (r.drop 4)) :
    (convert 50 9 (.slice a (vl r 4) c)).run Try.prog w = .ok (.string (piece r)) w := by
  have hl : ((r.drop 4).take (vl r 4)).length = vl r 4 := by simp; omega
  have := convert_bytes w a c ((r.drop 4).take (vl r 4)) (hb.take _)
  rw [hl] at this
  exact this

set_option maxHeartbeats 2000000 in
set_option maxRecDepth 20000 in
theorem unpack_any (a : Option Addr) (l : List UInt8) (cap : Nat) (w : World) (hr : l.length ≤ 8388608) (hcap : l.length ≤ cap) (hb : Bytes w a l) :
    Calls Try.prog 79 #[.slice a l.length cap] w fun e w' => ∃ v, e = .returned (.tuple #[v, .bool (uOk l)]) ∧ OwnS w' w.heap.size v (uL l) ∧ Below w.heap.size w w' := by
  obtain ⟨i0, hi, hz0, hz1, hz2⟩ := info_parts info9
  go_enter Try.func79, Try.ntmps79
  go_wp2
  go_loopw [0, 4] (fun u v wr => ∃ (a' : Option Addr) (r : List UInt8) (acc : List ByteArray) (c n : Nat), u = .slice a' n c ∧ n ≤ c ∧ r.length = n ∧ Bytes w a' r ∧ 4 * acc.length + n ≤ l.length ∧ unp (l.length + 1) l = (unp (r.length + 1) r).map (acc ++ ·) ∧
      OwnS wr w.heap.size v acc ∧ Below w.heap.size w wr)
    (fun u _ _ => match u with | .slice _ n _ => n | _ => 0)
  case atStart => exact ⟨a, l, [], cap, l.length, rfl, hcap, rfl, hb, by simp, by simp, World.ownsRow_nil _ _ _ _, Below.refl _ _⟩
  case round =>
    obtain ⟨a', r, acc, c, n, rfl, hrc, hrn, hbr, hal, hunp, hown, hnx⟩ := hrel
    have HN : Hid (r.length = n) := hrn
    have HU : Hid (unp (l.length + 1) l = (unp (r.length + 1) r).map (acc ++ ·)) := hunp
    clear hunp hrn
    have hsz := hnx.size
    by_cases h0 : 0 < n
    · by_cases h4 : n < 4
      · have hno : Hid (unp (l.length + 1) l = none) := by
          show _ = _
          rw [HU.out, unp_short (by rw [HN.out]; omega) (by rw [HN.out]; exact h4)]
          rfl
        go_wp2
        go_ret2
        exact ⟨_, ret_vb (by rw [uOk, hno.out]; rfl), ownS_nil _ _ (by rw [uL, hno.out]; rfl), hnx⟩
      · obtain ⟨b, off, rfl, hbb, hcs⟩ := hbr.at (k := 0) (by rw [HN.out]; exact h0)
        have hbw : Bytes wr (some ⟨b, off, none⟩) r := hbr.below hnx (Nat.le_refl _)
        have hv4 := vl4_bd r
        have k4 : (4 : Int) ≤ (n : Int) := by omega
        have k4c : (4 : Int) ≤ (c : Int) := by omega
        have HQ : Hid (∀ nq, Calls Try.prog 94 #[.slice (some ⟨b, off, none⟩) 4 c] (wr.drewN nq) fun e w' => e = .returned (.int .u64 (vl r 4 : Nat)) ∧ w' = wr.drewN nq) := fun nq => number4 _ r c _ (by rw [HN.out]; omega) (hbw.drewN nq)
        by_cases hlong : n - 4 < vl r 4
        · have hno : Hid (unp (l.length + 1) l = none) := by
            show _ = _
            rw [HU.out, unp_long (by rw [HN.out]; omega) (by rw [HN.out]; exact hlong)]
            rfl
          clear hcs hbr hbw
          go_wp2_with fail
          go_quiet ((go_at_call 94; exact Calls.quiet_of_same (HQ.out _)))
          go_wp2
          all_goals go_ret2
          all_goals exact ⟨_, ret_vb (by rw [uOk, hno.out]; rfl), ownS_nil _ _ (by rw [uL, hno.out]; rfl), below_drewN hnx _⟩
        · have hfit : vl r 4 ≤ n - 4 := by omega
          have HF : Hid (vl r 4 ≤ r.length - 4) := by
            show _ ≤ _
            rw [HN.out]
            exact hfit
          have kf : (vl r 4 : Int) ≤ (n : Int) - 4 := by omega
          by_cases hc4 : c = 4
          · have HW : Hid (Bytes wr (some ⟨b, off, none⟩) (r.drop 4)) := .inl (List.drop_eq_nil_of_le (by rw [HN.out]; omega))
            have HB : Hid (Bytes w (some ⟨b, off, none⟩) (r.drop (4 + vl r 4))) := .inl (List.drop_eq_nil_of_le (by rw [HN.out]; omega))
            clear hcs hbr hbw
            subst hc4
            obtain rfl : n = 4 := by omega
            have hv0 : vl r 4 = 0 := by omega
            have HV : Hid (vl r 4 = 0) := hv0
            clear hv0 hfit kf hlong hv4 k4 k4c hrc h4 h0
            have HQ' : Hid (∀ nq, Calls Try.prog 94 #[.slice (some ⟨b, off, none⟩) 4 4] (wr.drewN nq) fun e w' => e = .returned (.int .u64 0) ∧ w' = wr.drewN nq) := fun nq => by
              have := HQ.out nq
              rw [HV.out] at this
              exact this
            clear HQ
            go_wp2_with fail
            go_quiet ((go_at_call 94; exact Calls.quiet_of_same (HQ'.out _)))
            have hcv : (convert 50 9 (.slice (some ⟨b, off, none⟩) 0 0)).run Try.prog (wr.drewN nq) = .ok (.string (piece r)) (wr.drewN nq) := by
              have := conv_piece (wr.drewN nq) (some ⟨b, off, none⟩) 0 r HF.out (HW.out.drewN nq)
              rw [HV.out] at this
              exact this
            have hown' : (wr.drewN nq).ownsRow w.heap.size 9 1 u4 acc.length (acc.map Value.string) := hown
            go_wp2_with (at_builtin; refine wpList_append_own _ rfl (.tmp 23) (.tmp 28) 40 rfl w.heap.size 9 i0 (.string ⟨#[]⟩) 1 16 Try.underlying40 hi hz0 hz1 hz2 rfl (by decide) _ _ _ rfl (hown'.alloc _) ⟨wr.heap.size, 0, none⟩ 1 1 [.string (piece r)] rfl rfl ?c1a ?c2a ?c3a ?c4a ?c5a ?_)
            case c1a => exact cell_one_new (wr.drewN nq) _ _
            case c2a => exact one_one _ rfl
            case c3a => unfold maxLen; omega
            case c4a => omega
            case c5a => simp; omega
            intro v' w1 hown1 hgrow1 _
            have R : OwnS w1 w.heap.size v' (acc ++ [piece r]) := by
              unfold OwnS
              rw [List.length_append, List.map_append]
              exact hown1
            have hB1 : Below w.heap.size w w1 := ((below_drewN hnx nq).alloc hsz _).grown hgrow1 (by simp; omega) (fun j hj => (World.ownsRow.lt hown' j hj).1)
            clear hown1 hgrow1 hown' hcv hown
            go_wp2
            go_roundw
            case rel =>
              have hn := HN.out
              have hv := HV.out
              refine ⟨_, r.drop (4 + vl r 4), acc ++ [piece r], _, 0, rfl, by omega, by rw [List.length_drop]; omega, .inl (List.drop_eq_nil_of_le (by omega)), by simp; omega, ?_, R, hB1⟩
              · rw [HU.out, unp_step (by omega) HF.out, Option.map_map]
                congr 1
                funext x
                simp
            case measure => simp
          · have HW : Hid (Bytes wr (some ⟨b, off + 4, none⟩) (r.drop 4)) := hbw.drop 4
            have HB : Hid (Bytes w (some ⟨b, off + 4 + vl r 4, none⟩) (r.drop (4 + vl r 4))) := by
              have := hbr.drop (4 + vl r 4)
              rw [← Nat.add_assoc] at this
              exact this
            clear hcs hbr hbw
            go_wp2_with fail
            go_quiet ((go_at_call 94; exact Calls.quiet_of_same (HQ.out _)))
            have hcv := conv_piece (wr.drewN nq) (some ⟨b, off + 4, none⟩) (c - 4) r HF.out (HW.out.drewN nq)
            have hown' : (wr.drewN nq).ownsRow w.heap.size 9 1 u4 acc.length (acc.map Value.string) := hown
            go_wp2_with (at_builtin; refine wpList_append_own _ rfl (.tmp 23) (.tmp 28) 40 rfl w.heap.size 9 i0 (.string ⟨#[]⟩) 1 16 Try.underlying40 hi hz0 hz1 hz2 rfl (by decide) _ _ _ rfl (hown'.alloc _) ⟨wr.heap.size, 0, none⟩ 1 1 [.string (piece r)] rfl rfl ?c1b ?c2b ?c3b ?c4b ?c5b ?_)
            case c1b => exact cell_one_new (wr.drewN nq) _ _
            case c2b => exact one_one _ rfl
            case c3b => unfold maxLen; omega
            case c4b => omega
            case c5b => simp; omega
            intro v' w1 hown1 hgrow1 _
            have R : OwnS w1 w.heap.size v' (acc ++ [piece r]) := by
              unfold OwnS
              rw [List.length_append, List.map_append]
              exact hown1
            have hB1 : Below w.heap.size w w1 := ((below_drewN hnx nq).alloc hsz _).grown hgrow1 (by simp; omega) (fun j hj => (World.ownsRow.lt hown' j hj).1)
            clear hown1 hgrow1 hown' hcv hown
            go_wp2
            go_roundw
            case rel =>
              have hn := HN.out
              refine ⟨_, r.drop (4 + vl r 4), acc ++ [piece r], _, n - 4 - vl r 4, rfl, by omega, by rw [List.length_drop]; omega, ?_, by simp; omega, ?_, R, hB1⟩
              · split
                · exact .inl (List.drop_eq_nil_of_le (by omega))
                · exact HB.out
              · rw [HU.out, unp_step (by omega) HF.out, Option.map_map]
                congr 1
                funext x
                simp
            case measure => simp; omega
    · have hn0 : n = 0 := by omega
      have hyes : Hid (unp (l.length + 1) l = some acc) := by
        show _ = _
        rw [HU.out, unp_nil (by rw [HN.out]; exact hn0)]
        simp
      go_wp2
      go_ret2
      exact ⟨_, ret_vb (by rw [uOk, hyes.out]; rfl), by rw [uL, hyes.out]; exact hown, hnx⟩
end Go.Proofs.Ytecljiefljgfmaa
