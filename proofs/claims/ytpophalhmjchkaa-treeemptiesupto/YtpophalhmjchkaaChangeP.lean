/-
  A change of a tree by a closure of Put.
-/
import Derived.Test.YtpophalhmjchkaaChgM
namespace Go.Proofs.Ytpophalhmjchkaa
open Go.RowKit

/-- A text in a box. -/
structure Bx (w : World) (b : Nat) (s : ByteArray) : Prop where
  lt : b < w.heap.size
  cell : w.cell? ⟨b, 0, none⟩ = some (.string s)
theorem Bx.below {w w' : World} {b : Nat} {s : ByteArray} (h : Bx w b s) (hb : Below w.heap.size w w') : Bx w' b s := ⟨Nat.lt_of_lt_of_le h.lt hb.size, (hb.cell (p := ⟨b, 0, none⟩) h.lt).trans h.cell⟩

set_option maxHeartbeats 1000000 in
set_option maxRecDepth 20000 in
theorem closeP {AV : Avd} (k vv : ByteArray) (kb vb : Nat) (b : Nat) (ps : List KV) (w : World) (h : Lf w b ps) (hs : Srt ps) (hn : ps.length ≤ 100) (x1 : Bx w kb k) (x2 : Bx w vb vv) :
    Calls Try.prog 27 #[.pointer (some ⟨b, 0, none⟩), .pointer (some ⟨kb, 0, none⟩), .pointer (some ⟨vb, 0, none⟩)] w fun e w' => ∃ b', e = .returned (.pointer (some ⟨b', 0, none⟩)) ∧ Lf w' b' (putL k vv ps) ∧ Below w.heap.size w w' := by
  have hl := lput_any b ps k vv w h hs hn
  have c1 := x1.cell
  have c2 := x2.cell
  clear x1 x2 hs hn
  go_enter Try.func27, Try.ntmps27
  go_wp2_with (go_at_call 28; refine Calls.mono hl ?_; rintro e w2 ⟨b', rfl, hl, hb⟩)
  go_ret
  exact ⟨b', rfl, hl, hb⟩

set_option maxHeartbeats 4000000 in
set_option maxRecDepth 20000 in
theorem changeP {AV : Avd} (k vv : ByteArray) (kb vb : Nat) : ∀ (h : Nat) (t : T) (v : Value) (lo hi : Option ByteArray) (w : World), Nd w h v t → Val h lo hi t → InB lo hi k → t.sz ≤ 8 → (h = 0 ∨ 2 ≤ t.sz) → Bx w kb k → Bx w vb vv → 
    Calls Try.prog 23 #[v, .string k, (.func (.func 27) #[] #[.pointer (some ⟨kb, 0, none⟩), .pointer (some ⟨vb, 0, none⟩)])] w fun e w' => ∃ b, e = .returned (.pointer (some ⟨b, 0, none⟩)) ∧ Rw w' h b (chgT k (putL k vv) h t) ∧ Below w.heap.size w w' := by
  intro h
  induction h with
  | zero =>
    intro t v lo hi w hn hv hk h8 _ x1 x2
    match t, hn, hv, h8 with
    | .leaf ps, hn, hv, h8 =>
      obtain ⟨b, rfl, hl⟩ := hn
      have h8' : ps.length ≤ 8 := h8
      have hlen := (edit_put k vv).len ps
      obtain ⟨Q, hQ⟩ : ∃ Q, Q = (putL k vv ps) := ⟨_, rfl⟩
      have hcl : Calls Try.prog 27 #[.pointer (some ⟨b, 0, none⟩), .pointer (some ⟨kb, 0, none⟩), .pointer (some ⟨vb, 0, none⟩)] w (fun e w1 => ∃ b1, e = .returned (.pointer (some ⟨b1, 0, none⟩)) ∧ Calls Try.prog 36 #[.pointer (some ⟨b1, 0, none⟩)] w1 (fun e w2 => ∃ b2, e = .returned (.pointer (some ⟨b2, 0, none⟩)) ∧ Rw w2 0 b2 (chgT k (putL k vv) 0 (.leaf ps)) ∧ Below w.heap.size w w2)) := by
        refine Calls.mono (closeP k vv kb vb b ps w hl hv.2.1 (by omega) x1 x2) ?_
        rintro e w1 ⟨b1, rfl, hl1, hb1⟩
        refine ⟨b1, rfl, Calls.mono (lcut_any b1 _ w1 hl1 (by omega)) ?_⟩
        rintro e w2 ⟨b2, rfl, hr, hb2⟩
        exact ⟨b2, rfl, hr, hb1.trans (hb2.mono hb1.size)⟩
      obtain ⟨RR, hRR⟩ : ∃ RR, RR = chgT k (putL k vv) 0 (.leaf ps) := ⟨_, rfl⟩
      rw [← hRR] at hcl ⊢
      have ht := fun w => ta_ll (.pointer (some ⟨b, 0, none⟩)) w
      clear hl hv hk h8 h8' hlen hQ x1 x2 hRR
      go_enter Try.func23, Try.ntmps23
      go_wp2_with fail
      refine Calls.mono hcl ?_
      rintro e w1 ⟨b1, rfl, hc1⟩
      go_wp2_with fail
      refine Calls.mono hc1 ?_
      rintro e w2 ⟨b2, rfl, hr, hb⟩
      go_wp2
      go_ret
      exact ⟨b2, rfl, hr, hb⟩
    | .inner _ _, hn, _, _ => exact hn.elim
  | succ h ih =>
    intro t v lo hi w hn hv hk h8 h2 x1 x2
    match t, hn, hv, h8, h2 with
    | .inner bs cs, hn, hv, h8, h2 =>
      obtain ⟨b, rfl, hr⟩ := hn
      have h8' : cs.length ≤ 8 := h8
      have h2' : 2 ≤ cs.length := by rcases h2 with h2 | h2; omega; exact h2
      obtain ⟨hil, m1, m2, r1, r2, r3, r4, hM, hchg⟩ := chg_mid (edit_put k vv) hv hk h8' h2'
      have hlen := hv.1.len
      have hpl := iplace_any b bs cs k w hr (Row.rise (fun _ _ _ h => Val.lt h) hv.1).1 (by omega)
      
      obtain ⟨i, hie⟩ : ∃ i, i = pl bs k := ⟨_, rfl⟩
      simp only [← hie] at hil r1 r3 r4 hM hchg hpl
      obtain ⟨RR, hRR⟩ : ∃ RR, RR = chgT k (putL k vv) (h + 1) (.inner bs cs) := ⟨_, rfl⟩
      rw [← hRR] at hchg ⊢
      have hii := hr
      obtain ⟨a1, c1, a2, c2, vs, q1, q2, q3, q4⟩ := hii
      have q3 : Sl w 1 a2 cs.length c2 vs := q3
      have q4 : All2 (Nd w h) vs cs := q4
      have hvl := q4.len
      obtain ⟨bb, off, rfl, hbb, hcc⟩ := q3.at (j := i) (by omega)
      have hcell := hcc i (by omega)
      have hnd := q4.get (j := i) (by omega) hil
      obtain ⟨x, hx⟩ : ∃ x, x = vs[i]'(by omega) := ⟨_, rfl⟩
      rw [← hx] at hcell hnd
      have hbl : b < w.heap.size := (Array.getElem?_eq_some_iff.1 q1).1
      have k1 : w.cell? ⟨b, 1, none⟩ = some (.slice (some ⟨bb, off, none⟩) cs.length c2) := cell_blk q1 1
      have HI : Calls Try.prog 34 #[.pointer (some ⟨b, 0, none⟩), .string k] w (fun e w1 => e = .returned (.int .i64 (i : Int)) ∧ w1.cell? ⟨b, 1, none⟩ = some (.slice (some ⟨bb, off, none⟩) cs.length c2) ∧ w1.cell? ⟨bb, off + i, none⟩ = some x ∧
          Calls Try.prog 23 #[x, .string k, (.func (.func 27) #[] #[.pointer (some ⟨kb, 0, none⟩), .pointer (some ⟨vb, 0, none⟩)])] w1 (fun e w2 => ∃ rb, e = .returned (.pointer (some ⟨rb, 0, none⟩)) ∧
          Calls Try.prog 37 #[.pointer (some ⟨b, 0, none⟩), .int .i64 (i : Int), .int .i64 ((i : Int) + 1), .pointer (some ⟨rb, 0, none⟩)] w2 (fun e w3 => ∃ b3, e = .returned (.pointer (some ⟨b3, 0, none⟩)) ∧
          Calls Try.prog 38 #[.pointer (some ⟨b3, 0, none⟩), .int .i64 (i : Int)] w3 (fun e w4 => ∃ b4, e = .returned (.pointer (some ⟨b4, 0, none⟩)) ∧
          Calls Try.prog 39 #[.pointer (some ⟨b4, 0, none⟩)] w4 (fun e w5 => ∃ b5, e = .returned (.pointer (some ⟨b5, 0, none⟩)) ∧ Rw w5 (h + 1) b5 RR ∧ Below w.heap.size w w5))))) := by
        refine Calls.mono hpl ?_
        rintro e w1 ⟨rfl, hb1⟩
        refine ⟨rfl, (hb1.cell (p := ⟨b, 1, none⟩) hbl).trans k1, (hb1.cell (p := ⟨bb, off + i, none⟩) hbb).trans hcell, ?_⟩
        refine Calls.mono (ih cs[i] x m1 m2 w1 (hnd.below hb1) r1 r2 r4 (.inr (by omega)) (x1.below hb1) (x2.below hb1)) ?_
        rintro e w2 ⟨rb, rfl, hrb, hb2⟩
        have hb2 : Below w.heap.size w w2 := hb1.trans (hb2.mono hb1.size)
        refine ⟨rb, rfl, ?_⟩
        have hW := with_any b h bs cs i (i + 1) rb _ w2 (Rw.below (h := h) (r := (bs, cs)) hr hb2) hlen (by omega) (by omega) (by omega) hrb hM.rlen (Nat.le_trans hM.rmax (by omega))
        rw [show ((i + 1 : Nat) : Int) = (i : Int) + 1 from by omega] at hW
        refine Calls.mono hW ?_
        rintro e w3 ⟨b3, rfl, hr3, hb3⟩
        have hb3 : Below w.heap.size w w3 := hb2.trans (hb3.mono hb2.size)
        refine ⟨b3, rfl, ?_⟩
        refine Calls.mono (mend_any b3 h _ _ i lo hi w3 hr3 hM.row hM.at' hM.min (Nat.le_trans hM.max (by omega)) hM.szs) ?_
        rintro e w4 ⟨b4, rfl, hr4, hb4⟩
        have hb4 : Below w.heap.size w w4 := hb3.trans (hb4.mono hb3.size)
        refine ⟨b4, rfl, ?_⟩
        refine Calls.mono (icut_any b4 h _ _ w4 hr4 hM.mlen (Nat.le_trans hM.mmax (by omega))) ?_
        rintro e w5 ⟨b5, rfl, hr5, hb5⟩
        exact ⟨b5, rfl, by rw [hchg]; exact hr5, hb4.trans (hb5.mono hb4.size)⟩
      have ht := fun w => ta_il (.pointer (some ⟨b, 0, none⟩)) w
      have ht2 := fun w => ta_ii (.pointer (some ⟨b, 0, none⟩)) w
      have hili : (i : Int) < (cs.length : Int) := by omega
      have hw1 : IntKind.i64.wrap ((i : Int) + 1) = (i : Int) + 1 := by rw [IntKind.wrap_i64]; omega
      clear hr hv hk h8 h8' h2 h2' r1 r2 r3 r4 hM hchg hlen hpl hie hRR q1 q2 q3 q4 hvl hbb hcc hcell hnd hx hbl k1 x1 x2 ih hil
      go_enter Try.func23, Try.ntmps23
      go_wp2_with fail
      refine Calls.mono HI ?_
      rintro e w1 ⟨rfl, u0, u1, HI⟩
      go_wp2_with fail
      refine Calls.mono HI ?_
      rintro e w2 ⟨rb, rfl, HI⟩
      go_wp2_with fail
      refine Calls.mono HI ?_
      rintro e w3 ⟨b3, rfl, HI⟩
      go_wp2_with fail
      refine Calls.mono HI ?_
      rintro e w4 ⟨b4, rfl, HI⟩
      go_wp2_with fail
      refine Calls.mono HI ?_
      rintro e w5 ⟨b5, rfl, hr5, hb5⟩
      go_wp2
      go_ret
      exact ⟨b5, rfl, hr5, hb5⟩
    | .leaf _, hn, _, _, _ => exact hn.elim
end Go.Proofs.Ytpophalhmjchkaa
