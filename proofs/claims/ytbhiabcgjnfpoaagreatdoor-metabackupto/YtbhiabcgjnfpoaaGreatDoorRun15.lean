/-
  enc.Unpack by its contract.
-/
import Derived.Test.YtbhiabcgjnfpoaaGreatDoorRun02
import Derived.Test.YtbhiabcgjnfpoaaGreatDoorRun14
import Derived.Deep.QuietTactic
import Derived.BigQuiet
import Derived.Test.YtbhiabcgjnfpoaaGreatDoorRun12
import Derived.Laws.Rows
namespace Go.Proofs.YtbhiabcgjnfpoaaGreatDoor.En
open Go.RowKit

def piece (r : List UInt8) : ByteArray := ⟨((r.drop 4).take (vl r 4)).toArray⟩
/-- What Unpack answers, f rounds at the most. -/
def unp : Nat → List UInt8 → Option (List ByteArray)
  | 0, _ => none
  | f + 1, r => if r.length = 0 then some [] else if r.length < 4 then none else if r.length - 4 < vl r 4 then none else (unp f (r.drop (4 + vl r 4))).map (piece r :: ·)

theorem unp_fuel : ∀ (f g : Nat) (r : List UInt8), r.length < f → r.length < g → unp f r = unp g r
  | 0, _, _, h, _ => by omega
  | _ + 1, 0, _, _, h => by omega
  | f + 1, g + 1, r, h1, h2 => by
    simp only [unp]
    split
    · rfl
    · split
      · rfl
      · split
        · rfl
        · rw [unp_fuel f g (r.drop (4 + vl r 4)) (by simp; omega) (by simp; omega)]
theorem unp_nil {n : Nat} {r : List UInt8} (h : r.length = 0) : unp (n + 1) r = some [] := by simp only [unp, if_pos h]
theorem unp_short {n : Nat} {r : List UInt8} (h0 : r.length ≠ 0) (h : r.length < 4) : unp (n + 1) r = none := by simp only [unp, if_neg h0, if_pos h]
theorem unp_long {n : Nat} {r : List UInt8} (h0 : 4 ≤ r.length) (h : r.length - 4 < vl r 4) : unp (n + 1) r = none := by
  simp only [unp, if_neg (show ¬ r.length = 0 by omega), if_neg (show ¬ r.length < 4 by omega), if_pos h]
theorem unp_step {r : List UInt8} (h0 : 4 ≤ r.length) (h : vl r 4 ≤ r.length - 4) : unp (r.length + 1) r = (unp ((r.drop (4 + vl r 4)).length + 1) (r.drop (4 + vl r 4))).map (piece r :: ·) := by
  rw [unp, if_neg (show ¬ r.length = 0 by omega), if_neg (show ¬ r.length < 4 by omega), if_neg (show ¬ r.length - 4 < vl r 4 by omega)]
  rw [unp_fuel r.length ((r.drop (4 + vl r 4)).length + 1) (r.drop (4 + vl r 4)) (by simp; omega) (by simp)]

def uOk (l : List UInt8) : Bool := (unp (l.length + 1) l).isSome
def uL (l : List UInt8) : List ByteArray := (unp (l.length + 1) l).getD []

/-- A row of texts of the call's own. -/
def OwnS (w : World) (base : Nat) (v : Value) (L : List ByteArray) : Prop := w.ownsRow base 9 1 v L.length (L.map Value.string)
theorem ownS_nil (w : World) (base : Nat) {L : List ByteArray} (h : L = []) : OwnS w base (.slice none 0 0) L := by
  subst h
  exact World.ownsRow_nil _ _ _ _

theorem OwnS.strs {w : World} {base : Nat} {v : Value} {L : List ByteArray} (h : OwnS w base v L) : ∃ a cap, v = .slice a L.length cap ∧ Strs w a L := by
  obtain ⟨hl, ⟨rfl, hn⟩ | ⟨g, cap, cur, rfl, hg, hh, hnc, hcm, hcs, htk⟩⟩ := h
  · exact ⟨none, 0, by rw [hn], .inl (List.eq_nil_of_length_eq_zero hn)⟩
  · refine ⟨_, cap, rfl, .inr ⟨g, 0, rfl, ?_, ?_⟩⟩
    · rcases Nat.lt_or_ge g w.heap.size with h | h
      · exact h
      · rw [Array.getElem?_eq_none h] at hh
        simp at hh
    · intro j hj
      have hown : w.ownsRow base 9 1 (.slice (some ⟨g, 0, none⟩) L.length cap) L.length (L.map Value.string) := ⟨hl, .inr ⟨g, cap, cur, rfl, hg, hh, hnc, hcm, hcs, htk⟩⟩
      have := hown.cellAt j (by omega)
      simp only [Nat.zero_add]
      rw [this]
      simp [List.getElem?_eq_getElem hj]

theorem vl_take (r : List UInt8) (m : Nat) : ∀ k, k ≤ m → vl (r.take m) k = vl r k
  | 0, _ => rfl
  | k + 1, h => by
    rw [vl, vl, vl_take r m k (by omega)]
    have : (r.take m).getD k 0 = r.getD k 0 := by simp [List.getD, show k < m by omega]
    rw [this]
theorem vl4_bd (r : List UInt8) : vl r 4 < 4294967296 := by
  have := vl_bd r 4
  have e : (256 : Nat) ^ 4 = 4294967296 := by decide
  omega

theorem Bytes.take {w : World} {a : Option Addr} {r : List UInt8} (h : Bytes w a r) (k : Nat) : Bytes w a (r.take k) := by
  rcases h with rfl | ⟨b, off, rfl, hb, hc⟩
  · exact .inl (by simp)
  · refine .inr ⟨b, off, rfl, hb, fun j hj => ?_⟩
    have hj' : j < r.length := by simp at hj; omega
    rw [hc j hj']
    simp
theorem Bytes.drop {w : World} {b off : Nat} {r : List UInt8} (h : Bytes w (some ⟨b, off, none⟩) r) (k : Nat) : Bytes w (some ⟨b, off + k, none⟩) (r.drop k) := by
  rcases h with rfl | ⟨b', off', he, hb, hc⟩
  · exact .inl (by simp)
  · simp only [Option.some.injEq, Addr.mk.injEq, and_true] at he
    obtain ⟨rfl, rfl⟩ := he
    refine .inr ⟨b, off + k, rfl, hb, fun j hj => ?_⟩
    have hj' : k + j < r.length := by simp at hj; omega
    rw [show off + k + j = off + (k + j) from by omega, hc (k + j) hj']
    simp
theorem Bytes.cut {w : World} {b off c : Nat} {r : List UInt8} (h : Bytes w (some ⟨b, off, none⟩) r) {k : Nat} (hc : r.length ≤ c) : Bytes w (if c = k then some ⟨b, off, none⟩ else some ⟨b, off + k, none⟩) (r.drop k) := by
  split
  · exact .inl (List.drop_eq_nil_of_le (by omega))
  · exact h.drop k
theorem Bytes.drewN {w : World} {a : Option Addr} {r : List UInt8} (h : Bytes w a r) (n : Nat) : Bytes (w.drewN n) a r := h

theorem number4 (a : Option Addr) (r : List UInt8) (c : Nat) (w : World) (h : 4 ≤ r.length) (hb : Bytes w a r) :
    Calls Tryz.prog 119 #[.slice a 4 c] w fun e w' => e = .returned (.int .u64 (vl r 4 : Nat)) ∧ w' = w := by
  have hl : (r.take 4).length = 4 := by simp; omega
  have := number_any a (r.take 4) c w (by omega) (hb.take 4)
  rw [hl, vl_take r 4 4 (Nat.le_refl _)] at this
  exact this.mono fun _ _ h => ⟨h.1, h.2.symm⟩

theorem conv_piece (w : World) (a : Option Addr) (c : Nat) (r : List UInt8) (h : vl r 4 ≤ r.length - 4) (hb : Bytes w a (r.drop 4)) :
    (convert 76 9 (.slice a (vl r 4) c)).run Tryz.prog w = .ok (.string (piece r)) w := by
  have hl : ((r.drop 4).take (vl r 4)).length = vl r 4 := by simp; omega
  have := convert_bytes w a c ((r.drop 4).take (vl r 4)) (hb.take _)
  rw [hl] at this
  exact this

set_option maxRecDepth 20000 in
set_option maxHeartbeats 2000000 in
theorem unpack_any (a : Option Addr) (l : List UInt8) (cap : Nat) (w : World) (hr : l.length ≤ 8388608) (hcap : l.length ≤ cap) (hb : Bytes w a l) :
    Calls Tryz.prog 91 #[.slice a l.length cap] w fun e w' => ∃ v, e = .returned (.tuple #[v, .bool (uOk l)]) ∧ OwnS w' w.heap.size v (uL l) ∧ Below w.heap.size w w' := by
  obtain ⟨i0, hi, hz0, hz1, hz2⟩ := info_parts info9
  go_enter Tryz.func91, Tryz.ntmps91
  go_wp2
  go_loopw [0, 4] (fun u v wr => ∃ (a' : Option Addr) (r : List UInt8) (acc : List ByteArray) (c n : Nat), u = .slice a' n c ∧ n ≤ c ∧ r.length = n ∧ Bytes w a' r ∧ 4 * acc.length + n ≤ l.length ∧ unp (l.length + 1) l = (unp (r.length + 1) r).map (acc ++ ·) ∧
      OwnS wr w.heap.size v acc ∧ Below w.heap.size w wr)
    (fun u _ _ => match u with | .slice _ n _ => n | _ => 0)
  case atStart => exact ⟨a, l, [], cap, l.length, rfl, hcap, rfl, hb, by simp, by simp, World.ownsRow_nil _ _ _ _, Below.refl _ _⟩
  case round =>
    obtain ⟨a', r, acc, c, n, rfl, hrc, hrn, hbr, hal, hunp, hown, hnx⟩ := hrel
    have HN : Hid (r.length = n) := hrn
    have HU : Hid (unp (l.length + 1) l = (unp (r.length + 1) r).map (acc ++ ·)) := hunp
    clear hunp hrn
    have hsz := hnx.size
    by_cases h0 : 0 < n
    · by_cases h4 : n < 4
      · have hno : Hid (unp (l.length + 1) l = none) := by
          show _ = _
          rw [HU.out, unp_short (by rw [HN.out]; omega) (by rw [HN.out]; exact h4)]
          rfl
        go_wp2
        go_ret2
        exact ⟨_, ret_vb (by rw [uOk, hno.out]; rfl), ownS_nil _ _ (by rw [uL, hno.out]; rfl), hnx⟩
      · obtain ⟨b, off, rfl, hbb, hcs⟩ := hbr.at (k := 0) (by rw [HN.out]; exact h0)
        have hbw : Bytes wr (some ⟨b, off, none⟩) r := hbr.below hnx (Nat.le_refl _)
        have hv4 := vl4_bd r
        have k4 : (4 : Int) ≤ (n : Int) := by omega
        have k4c : (4 : Int) ≤ (c : Int) := by omega
        have HQ : Hid (∀ nq, Calls Tryz.prog 119 #[.slice (some ⟨b, off, none⟩) 4 c] (wr.drewN nq) fun e w' => e = .returned (.int .u64 (vl r 4 : Nat)) ∧ w' = wr.drewN nq) := fun nq => number4 _ r c _ (by rw [HN.out]; omega) (hbw.drewN nq)
        by_cases hlong : n - 4 < vl r 4
        · have hno : Hid (unp (l.length + 1) l = none) := by
            show _ = _
            rw [HU.out, unp_long (by rw [HN.out]; omega) (by rw [HN.out]; exact hlong)]
            rfl
          clear hcs hbr hbw
          go_wp2_with fail
          go_quiet ((go_at_call 119; exact Calls.quiet_of_same (HQ.out _)))
          go_wp2
          all_goals go_ret2
          all_goals exact ⟨_, ret_vb (by rw [uOk, hno.out]; rfl), ownS_nil _ _ (by rw [uL, hno.out]; rfl), below_drewN hnx _⟩
        · have hfit : vl r 4 ≤ n - 4 := by omega
          have HF : Hid (vl r 4 ≤ r.length - 4) := by
            show _ ≤ _
            rw [HN.out]
            exact hfit
          have kf : (vl r 4 : Int) ≤ (n : Int) - 4 := by omega
          by_cases hc4 : c = 4
          · have HW : Hid (Bytes wr (some ⟨b, off, none⟩) (r.drop 4)) := .inl (List.drop_eq_nil_of_le (by rw [HN.out]; omega))
            have HB : Hid (Bytes w (some ⟨b, off, none⟩) (r.drop (4 + vl r 4))) := .inl (List.drop_eq_nil_of_le (by rw [HN.out]; omega))
            clear hcs hbr hbw
            subst hc4
            obtain rfl : n = 4 := by omega
            have hv0 : vl r 4 = 0 := by omega
            have HV : Hid (vl r 4 = 0) := hv0
            clear hv0 hfit kf hlong hv4 k4 k4c hrc h4 h0
            have HQ' : Hid (∀ nq, Calls Tryz.prog 119 #[.slice (some ⟨b, off, none⟩) 4 4] (wr.drewN nq) fun e w' => e = .returned (.int .u64 0) ∧ w' = wr.drewN nq) := fun nq => by
              have := HQ.out nq
              rw [HV.out] at this
              exact this
            clear HQ
            go_wp2_with fail
            go_quiet ((go_at_call 119; exact Calls.quiet_of_same (HQ'.out _)))
            have hcv : (convert 76 9 (.slice (some ⟨b, off, none⟩) 0 0)).run Tryz.prog (wr.drewN nq) = .ok (.string (piece r)) (wr.drewN nq) := by
              have := conv_piece (wr.drewN nq) (some ⟨b, off, none⟩) 0 r HF.out (HW.out.drewN nq)
              rw [HV.out] at this
              exact this
            have hown' : (wr.drewN nq).ownsRow w.heap.size 9 1 u4 acc.length (acc.map Value.string) := hown
            go_wp2_with (at_builtin; refine wpList_append_own _ rfl (.tmp 23) (.tmp 28) 65 rfl w.heap.size 9 i0 (.string ⟨#[]⟩) 1 16 Tryz.underlying65 hi hz0 hz1 hz2 rfl (by decide) _ _ _ rfl (hown'.alloc _) ⟨wr.heap.size, 0, none⟩ 1 1 [.string (piece r)] rfl rfl ?c1a ?c2a ?c3a ?c4a ?c5a ?_)
            case c1a => exact cell_one_new (wr.drewN nq) _ _
            case c2a => exact one_one _ rfl
            case c3a => unfold maxLen; omega
            case c4a => omega
            case c5a => simp; omega
            intro v' w1 hown1 hgrow1 _
            have R : OwnS w1 w.heap.size v' (acc ++ [piece r]) := by
              unfold OwnS
              rw [List.length_append, List.map_append]
              exact hown1
            have hB1 : Below w.heap.size w w1 := ((below_drewN hnx nq).alloc hsz _).grown hgrow1 (by simp; omega) (fun j hj => (World.ownsRow.lt hown' j hj).1)
            clear hown1 hgrow1 hown' hcv hown
            go_wp2
            go_roundw
            case rel =>
              have hn := HN.out
              have hv := HV.out
              refine ⟨_, r.drop (4 + vl r 4), acc ++ [piece r], _, 0, rfl, by omega, by rw [List.length_drop]; omega, .inl (List.drop_eq_nil_of_le (by omega)), by simp; omega, ?_, R, hB1⟩
              · rw [HU.out, unp_step (by omega) HF.out, Option.map_map]
                congr 1
                funext x
                simp
            case measure => simp
          · have HW : Hid (Bytes wr (some ⟨b, off + 4, none⟩) (r.drop 4)) := hbw.drop 4
            have HB : Hid (Bytes w (some ⟨b, off + 4 + vl r 4, none⟩) (r.drop (4 + vl r 4))) := by
              have := hbr.drop (4 + vl r 4)
              rw [← Nat.add_assoc] at this
              exact this
            clear hcs hbr hbw
            go_wp2_with fail
            go_quiet ((go_at_call 119; exact Calls.quiet_of_same (HQ.out _)))
            have hcv := conv_piece (wr.drewN nq) (some ⟨b, off + 4, none⟩) (c - 4) r HF.out (HW.out.drewN nq)
            have hown' : (wr.drewN nq).ownsRow w.heap.size 9 1 u4 acc.length (acc.map Value.string) := hown
            go_wp2_with (at_builtin; refine wpList_append_own _ rfl (.tmp 23) (.tmp 28) 65 rfl w.heap.size 9 i0 (.string ⟨#[]⟩) 1 16 Tryz.underlying65 hi hz0 hz1 hz2 rfl (by decide) _ _ _ rfl (hown'.alloc _) ⟨wr.heap.size, 0, none⟩ 1 1 [.string (piece r)] rfl rfl ?c1b ?c2b ?c3b ?c4b ?c5b ?_)
            case c1b => exact cell_one_new (wr.drewN nq) _ _
            case c2b => exact one_one _ rfl
            case c3b => unfold maxLen; omega
            case c4b => omega
            case c5b => simp; omega
            intro v' w1 hown1 hgrow1 _
            have R : OwnS w1 w.heap.size v' (acc ++ [piece r]) := by
              unfold OwnS
              rw [List.length_append, List.map_append]
              exact hown1
            have hB1 : Below w.heap.size w w1 := ((below_drewN hnx nq).alloc hsz _).grown hgrow1 (by simp; omega) (fun j hj => (World.ownsRow.lt hown' j hj).1)
            clear hown1 hgrow1 hown' hcv hown
            go_wp2
            go_roundw
            case rel =>
              have hn := HN.out
              refine ⟨_, r.drop (4 + vl r 4), acc ++ [piece r], _, n - 4 - vl r 4, rfl, by omega, by rw [List.length_drop]; omega, ?_, by simp; omega, ?_, R, hB1⟩
              · split
                · exact .inl (List.drop_eq_nil_of_le (by omega))
                · exact HB.out
              · rw [HU.out, unp_step (by omega) HF.out, Option.map_map]
                congr 1
                funext x
                simp
            case measure => simp; omega
    · have hn0 : n = 0 := by omega
      have hyes : Hid (unp (l.length + 1) l = some acc) := by
        show _ = _
        rw [HU.out, unp_nil (by rw [HN.out]; exact hn0)]
        simp
      go_wp2
      go_ret2
      exact ⟨_, ret_vb (by rw [uOk, hyes.out]; rfl), by rw [uL, hyes.out]; exact hown, hnx⟩
end Go.Proofs.YtbhiabcgjnfpoaaGreatDoor.En
/-
  A reader of fields in memory: two boxes, one for what is left, one for whether all was right.
-/
namespace Go.Proofs.YtbhiabcgjnfpoaaGreatDoor
open Go.RowKit

theorem cell_blk {w : World} {g : Nat} {c : Array Value} {t : TypeId} (h : w.heap[g]? = some (.cells c t (0, 0))) (j : Nat) : w.cell? ⟨g, j, none⟩ = c[j]? := by simp [World.cell?, h]
theorem frozen_blk {w : World} {g : Nat} {c : Array Value} {t : TypeId} (h : w.heap[g]? = some (.cells c t (0, 0))) (j : Nat) : w.frozen? ⟨g, j, none⟩ = false := by
  simp only [World.frozen?, h]
  rw [Bool.and_eq_false_iff]
  right
  exact decide_eq_false (by omega)
theorem set_blk {w : World} {g : Nat} {c : Array Value} {t : TypeId} (h : w.heap[g]? = some (.cells c t (0, 0))) (j : Nat) (u : Value) : (w.setCell ⟨g, j, none⟩ u).heap[g]? = some (.cells (c.setIfInBounds j u) t (0, 0)) := by
  simp only [World.setCell, Array.getElem?_modify]
  rw [if_pos trivial, h]
  simp
theorem blk_lt {w : World} {g : Nat} {o : Obj} (h : w.heap[g]? = some o) : g < w.heap.size := (Array.getElem?_eq_some_iff.1 h).1

/-- Of what was there only the blocks of F may have turned. -/
structure Md (F : Nat → Prop) (w w' : World) : Prop where
  os : w'.os = w.os
  tape : w'.tape = w.tape
  output : w'.output = w.output
  size : w.heap.size ≤ w'.heap.size
  block : ∀ b, b < w.heap.size → ¬ F b → w'.heap[b]? = w.heap[b]?
theorem Md.refl (F : Nat → Prop) (w : World) : Md F w w := ⟨rfl, rfl, rfl, Nat.le_refl _, fun _ _ _ => rfl⟩
theorem Md.trans {F : Nat → Prop} {w w1 w2 : World} (h : Md F w w1) (g : Md F w1 w2) : Md F w w2 :=
  ⟨g.os.trans h.os, g.tape.trans h.tape, g.output.trans h.output, Nat.le_trans h.size g.size, fun b hb h1 => (g.block b (Nat.lt_of_lt_of_le hb h.size) h1).trans (h.block b hb h1)⟩
theorem Md.below {F : Nat → Prop} {w w1 w2 : World} (h : Md F w w1) (hb : Below w1.heap.size w1 w2) : Md F w w2 :=
  h.trans ⟨hb.os, hb.tape, hb.output, hb.size, fun b hlt _ => hb.block b hlt⟩
theorem Md.set {F : Nat → Prop} {w w1 : World} (h : Md F w w1) {p : Nat} (hp : F p ∨ w.heap.size ≤ p) (j : Nat) (v : Value) : Md F w (w1.setCell ⟨p, j, none⟩ v) :=
  ⟨h.os, h.tape, h.output, Nat.le_trans h.size (by simp [World.setCell]), fun b hb h1 => (Below.heap_setCell _ _ _ _ (by
    show b ≠ p
    rintro rfl
    rcases hp with hp | hp
    · exact h1 hp
    · omega)).trans (h.block b hb h1)⟩
theorem Md.alloc {F : Nat → Prop} {w w1 : World} (h : Md F w w1) (o : Obj) : Md F w (w1.alloc o) := h.below ((Below.refl _ _).alloc (Nat.le_refl _) o)
theorem Md.mono {F G : Nat → Prop} {w w1 : World} (h : Md F w w1) (hF : ∀ b, b < w.heap.size → F b → G b) : Md G w w1 :=
  ⟨h.os, h.tape, h.output, h.size, fun b hb hg => h.block b hb (fun hf => hg (hF b hb hf))⟩
/-- A step that may turn, besides, blocks that are new. -/
theorem Md.then {F G : Nat → Prop} {w w1 w2 : World} (h : Md F w w1) (g : Md G w1 w2) (hG : ∀ b, b < w.heap.size → G b → F b) : Md F w w2 :=
  ⟨g.os.trans h.os, g.tape.trans h.tape, g.output.trans h.output, Nat.le_trans h.size g.size, fun b hb h1 => (g.block b (Nat.lt_of_lt_of_le hb h.size) (fun hg => h1 (hG b hb hg))).trans (h.block b hb h1)⟩
theorem Md.toBelow {F : Nat → Prop} {B : Nat} {w0 w w' : World} (hb : Below B w0 w) (h : Md F w w') (hF : ∀ b, b < B → ¬ F b) (hB : B ≤ w0.heap.size) : Below B w0 w' :=
  ⟨h.os.trans hb.os, h.tape.trans hb.tape, h.output.trans hb.output, Nat.le_trans hb.size h.size, fun b hlt => (h.block b (by have := hb.size; omega) (hF b hlt)).trans (hb.block b hlt)⟩

/-- The state of a reader: the fields that are left (below the block Bd); none: something was wrong. -/
structure Rd (w : World) (Bd s f : Nat) (st : Option (List ByteArray)) : Prop where
  ne : s ≠ f
  lo : Bd ≤ w.heap.size
  bs : w.heap[s]? = some (.cells #[.bool st.isSome] 4 (0, 0))
  bf : ∃ a n c, w.heap[f]? = some (.cells #[.slice a n c] 65 (0, 0)) ∧ ∀ L, st = some L → n = L.length ∧ L.length ≤ c ∧ En.Strs w a L ∧ ∀ b off, a = some ⟨b, off, none⟩ → b < Bd
theorem strs_not {w : World} {b off : Nat} {L : List ByteArray} (h : En.Strs w (some ⟨b, off, none⟩) L) (hl : L ≠ []) {g : Nat} {x : Value} {t : TypeId} (hg : w.heap[g]? = some (.cells #[x] t (0, 0))) (hx : ∀ y, x ≠ .string y) : b ≠ g := by
  rintro rfl
  rcases h with rfl | ⟨b', o', e, hlt, hc⟩
  · exact hl rfl
  · simp only [Option.some.injEq, Addr.mk.injEq] at e
    obtain ⟨rfl, rfl, -⟩ := e
    have hL : 0 < L.length := List.length_pos_iff.2 hl
    have h0 := hc 0 hL
    rw [Nat.add_zero, cell_blk hg] at h0
    match off, h0 with
    | 0, h0 =>
      simp at h0
      exact hx _ h0
    | k + 1, h0 => simp at h0
theorem Strs.md {F : Nat → Prop} {w w' : World} {a : Option Addr} {L : List ByteArray} (h : En.Strs w a L) (hm : Md F w w') (hn : ∀ b off, a = some ⟨b, off, none⟩ → L ≠ [] → ¬ F b) : En.Strs w' a L := by
  by_cases hl : L = []
  · exact .inl hl
  · rcases h with h | ⟨b, off, rfl, hlt, hc⟩
    · exact absurd h hl
    · refine .inr ⟨b, off, rfl, Nat.lt_of_lt_of_le hlt hm.size, fun j hj => ?_⟩
      rw [World.cell?_of_block (w := w) (a := ⟨b, off + j, none⟩) (hm.block b hlt (hn b off rfl hl))]
      exact hc j hj
theorem Rd.lt {w : World} {Bd s f : Nat} {st : Option (List ByteArray)} (h : Rd w Bd s f st) : s < w.heap.size ∧ f < w.heap.size := by
  obtain ⟨a, n, c, h1, h2⟩ := h.bf
  exact ⟨blk_lt h.bs, blk_lt h1⟩
theorem Rd.other {w w' : World} {Bd s f : Nat} {st : Option (List ByteArray)} (h : Rd w Bd s f st) (hb : Below w.heap.size w w') : Rd w' Bd s f st := by
  obtain ⟨a, n, c, h1, h2⟩ := h.bf
  exact ⟨h.ne, Nat.le_trans h.lo hb.size, (hb.block s (blk_lt h.bs)).trans h.bs, a, n, c, (hb.block f (blk_lt h1)).trans h1, fun L hL => ⟨(h2 L hL).1, (h2 L hL).2.1, (h2 L hL).2.2.1.below hb (Nat.le_refl _), (h2 L hL).2.2.2⟩⟩
/-- A reader stands when other blocks turn. -/
theorem Rd.md {F : Nat → Prop} {w w' : World} {Bd s f : Nat} {st : Option (List ByteArray)} (h : Rd w Bd s f st) (hm : Md F w w') (hs : ¬ F s) (hf : ¬ F f) (hF : ∀ b, b < Bd → ¬ F b) : Rd w' Bd s f st := by
  obtain ⟨a, n, c, h1, h2⟩ := h.bf
  exact ⟨h.ne, Nat.le_trans h.lo hm.size, (hm.block s (blk_lt h.bs) hs).trans h.bs, a, n, c, (hm.block f (blk_lt h1) hf).trans h1, fun L hL => ⟨(h2 L hL).1, (h2 L hL).2.1, Strs.md (h2 L hL).2.2.1 hm (fun b off e _ => hF b ((h2 L hL).2.2.2 b off e)), (h2 L hL).2.2.2⟩⟩
/-- A reader's value, as its functions have it. -/
def rdV (kt ks s f : Nat) : Value := .agg #[.func (.func kt) #[] #[.pointer (some ⟨s, 0, none⟩), .pointer (some ⟨f, 0, none⟩)], .func (.func ks) #[] #[.pointer (some ⟨s, 0, none⟩)]]

/-- What is asked of the function that looks at a field: it writes its answer into its own box, and tells whether the field is right. -/
def Look (ki p : Nat) (gd : ByteArray → Bool) (vl : ByteArray → Value) : Prop :=
  (∀ args w, (callFunc ki args).run Tryz.prog w = .ok (.enter ki args) w) ∧
  ∀ (W : World) (x : ByteArray), (∃ v t, W.heap[p]? = some (.cells #[v] t (0, 0))) → x.size ≤ 8388608 → Calls Tryz.prog ki #[.string x, .pointer (some ⟨p, 0, none⟩)] W fun e W' => e = .returned (.bool (gd x)) ∧ W' = W.setCell ⟨p, 0, none⟩ (vl x)
/-- What is left behind a field, and what the function's box holds. -/
def tkS (gd : ByteArray → Bool) : Option (List ByteArray) → Option (List ByteArray)
  | some (x :: r) => if gd x then some r else none
  | _ => none
def tkV (vl : ByteArray → Value) (v0 : Value) : Option (List ByteArray) → Value
  | some (x :: _) => vl x
  | _ => v0
/-- What is asked of 'take': it hands the next field to the function. -/
def Take (kt : Nat) : Prop :=
  (∀ args w, (callFunc kt args).run Tryz.prog w = .ok (.enter kt args) w) ∧
  ∀ (ki p Bd s f : Nat) (gd : ByteArray → Bool) (vl : ByteArray → Value) (st : Option (List ByteArray)) (w : World) (v0 : Value) (tp : TypeId), Look ki p gd vl → Rd w Bd s f st → w.heap[p]? = some (.cells #[v0] tp (0, 0)) → p ≠ s → p ≠ f →
    Bd ≤ p → (∀ L, st = some L → ∀ x ∈ L, x.size ≤ 8388608) →
    Calls Tryz.prog kt #[.func (.func ki) #[] #[.pointer (some ⟨p, 0, none⟩)], .pointer (some ⟨s, 0, none⟩), .pointer (some ⟨f, 0, none⟩)] w fun e w' => e = .returned (.tuple #[]) ∧
      Rd w' Bd s f (tkS gd st) ∧ w'.heap[p]? = some (.cells #[tkV vl v0 st] tp (0, 0)) ∧ Md (fun b => b = s ∨ b = f ∨ b = p) w w'
end Go.Proofs.YtbhiabcgjnfpoaaGreatDoor
