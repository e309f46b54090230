/-
  The reader's small steps: expect, take, isDigit.
-/
import Derived.Test.YtgpjjlkkfddjnaaDoorRdr
namespace Go.Proofs.YtgpjjlkkfddjnaaDoor
open Go.RowKit

theorem expect_any (p B : Nat) (a : Option Addr) (cap : Nat) (s : RS) (b : Bool) (w : World) (h : Rx w p B a cap s) :
    Calls Tryd.prog 41 #[.pointer (some ⟨p, 0, none⟩), .bool b] w fun e w' => e = .returned (.tuple #[]) ∧ Rx w' p B a cap (exS b s) ∧ Md (· = p) w w' := by
  have c1 : w.cell? ⟨p, 1, none⟩ = some (.int .i64 s.2) := (cell_blk h.box 1).trans rfl
  have f1 := frozen_blk h.box 1
  have H : Hid (Rx w p B a cap s) := h
  obtain ⟨l, f⟩ := s
  simp only at c1
  clear h
  go_enter Tryd.func41, Tryd.ntmps41
  by_cases hf : f = 0
  · subst hf
    cases b with
    | true =>
      go_wp2
      refine bodyPost_end (results_none rfl _ _ _) rfl ?_
      refine ⟨rfl, ?_, Md.refl _ _⟩
      rw [show exS true ((l, 0) : RS) = (l, 0) from rfl]
      exact H.out
    | false =>
      go_wp2
      refine bodyPost_end (results_none rfl _ _ _) rfl ?_
      refine ⟨rfl, ?_, Md.setp (Md.refl _ _) _ _⟩
      rw [show exS false ((l, 0) : RS) = (l, 308) from rfl]
      exact H.out.fault (Md.setp (Md.refl _ _) _ _) (by rw [set_blk H.out.box]; rfl)
  · have HF : Hid (f ≠ 0) := hf
    go_wp2
    refine bodyPost_end (results_none rfl _ _ _) rfl ?_
    refine ⟨rfl, ?_, Md.refl _ _⟩
    rw [exS_fault (s := (l, f)) HF.out]
    exact H.out
/-- What is told of what was taken: bytes below B, the reader behind them. -/
structure TkR (w w' : World) (p B : Nat) (r : List UInt8 × RS) (e : Ending) : Prop where
  told : ∃ da dc, e = .returned (.slice da r.1.length dc) ∧ r.1.length ≤ dc ∧ Bytes w' da r.1 ∧ (∀ x, da = some x → x.spot = none ∧ x.block < B) ∧ (da = none → dc = 0)
  rest : ∃ a cap, Rx w' p B a cap r.2
  md : Md (· = p) w w'
theorem tk_none {w w' : World} {p B : Nat} {s : RS} {a : Option Addr} {cap : Nat} (h : Rx w' p B a cap s) (hm : Md (· = p) w w') : TkR w w' p B ([], s) (.returned (.slice none 0 0)) :=
  ⟨⟨none, 0, rfl, Nat.le_refl _, .inl rfl, (fun x hx => by cases hx), fun _ => rfl⟩, ⟨a, cap, h⟩, hm⟩
theorem tk_done {w W : World} {p B : Nat} {a : Option Addr} {cap n : Nat} {l : List UInt8} (h : Rx w p B a cap (l, 0)) (hm : Md (· = p) w W) (hn : n ≤ l.length)
    (hbox : W.heap[p]? = some (.cells #[.slice (fromA a cap n) (l.length - n) (cap - n), .int .i64 0] 51 (0, 0))) : TkR w W p B (tkS n (l, 0)) (.returned (.slice a n cap)) := by
  have hc := h.cap_
  simp only at hc
  have e : tkS n ((l, 0) : RS) = (l.take n, (l.drop n, 0)) := by
    have : ¬ l.length < n := by omega
    simp [tkS, this]
  have hl : (l.take n).length = n := by rw [List.length_take]; omega
  rw [e]
  refine ⟨⟨a, cap, by simp only [hl], by simp only [hl]; omega, bytes_take n (h.bytes hm), h.lo, h.an⟩, ⟨_, _, h.turn (k := n) hm hn hbox⟩, hm⟩
set_option maxRecDepth 20000 in
set_option maxHeartbeats 1000000 in
theorem take_any (p B : Nat) (a : Option Addr) (cap : Nat) (s : RS) (n : Nat) (w : World) (h : Rx w p B a cap s) (hn : n ≤ 1000000000000) :
    Calls Tryd.prog 40 #[.pointer (some ⟨p, 0, none⟩), .int .i64 (n : Int)] w fun e w' => TkR w w' p B (tkS n s) e := by
  have c0 : w.cell? ⟨p, 0, none⟩ = some (.slice a s.1.length cap) := (cell_blk h.box 0).trans rfl
  have c1 : w.cell? ⟨p, 1, none⟩ = some (.int .i64 s.2) := (cell_blk h.box 1).trans rfl
  have f0 := frozen_blk h.box 0
  have f1 := frozen_blk h.box 1
  have hc := h.cap_
  have hlen := h.len
  have H : Hid (Rx w p B a cap s) := h
  obtain ⟨l, f⟩ := s
  simp only at c0 c1 hc
  clear h
  go_enter Tryd.func40, Tryd.ntmps40
  by_cases hf : f = 0
  · subst hf
    by_cases hl : l.length < n
    · have hli : (l.length : Int) < (n : Int) := by omega
      have HL : Hid (l.length < n) := hl
      clear hl
      go_wp2
      go_ret
      rw [show tkS n ((l, 0) : RS) = ([], (l, 307)) from by simp [tkS, HL.out]]
      exact tk_none (H.out.fault (Md.setp (Md.refl _ _) _ _) (by rw [set_blk H.out.box]; rfl)) (Md.setp (Md.refl _ _) _ _)
    · have hli : ¬ (l.length : Int) < (n : Int) := by omega
      have hnc : (n : Int) ≤ (cap : Int) := by omega
      have hnl : (n : Int) ≤ (l.length : Int) := by omega
      have HL : Hid (¬ l.length < n) := hl
      clear hl
      go_wp2
      · go_ret
        subst h
        refine tk_done H.out (Md.setp (Md.refl _ _) _ _) (by have := HL.out; omega) ?_
        rw [set_blk H.out.box]
        simp [fromA]
      · go_ret
        refine tk_done H.out (Md.setp (Md.refl _ _) _ _) (by have := HL.out; omega) ?_
        rw [set_blk H.out.box]
        simp [fromA, h]
  · have HF : Hid (f ≠ 0) := hf
    go_wp2
    go_ret
    rw [tkS_fault (s := (l, f)) HF.out]
    exact tk_none H.out (Md.refl _ _)
set_option maxHeartbeats 1000000 in
theorem isDigit_any (c : UInt8) (w : World) : Calls Tryd.prog 59 #[.int .u8 (c.toNat : Int)] w fun e w' => e = .returned (.bool (isDg c)) ∧ w' = w := by
  obtain ⟨n, hn⟩ : ∃ n, n = c.toNat := ⟨_, rfl⟩
  have h256 : n < 256 := by rw [hn]; exact c.toNat_lt
  have HD : Hid (isDg c = (decide (48 ≤ n ∧ n ≤ 57) || decide (97 ≤ n ∧ n ≤ 102))) := by show _ = _; rw [hn]; rfl
  rw [← hn]
  clear hn
  go_enter Tryd.func59, Tryd.ntmps59
  by_cases h1 : (48 : Int) ≤ (n : Int)
  · by_cases h2 : (n : Int) ≤ 57
    · go_wp2
      go_ret
      refine ⟨?_, rfl⟩
      rw [HD.out]
      have h1' : 48 ≤ n := by omega
      have h2' : n ≤ 57 := by omega
      simp [h1', h2']
    · by_cases h3 : (97 : Int) ≤ (n : Int)
      · by_cases h4 : (n : Int) ≤ 102
        · go_wp2
          go_ret
          refine ⟨?_, rfl⟩
          rw [HD.out]
          have h3' : 97 ≤ n := by omega
          have h4' : n ≤ 102 := by omega
          simp [h3', h4']
        · go_wp2
          go_ret
          refine ⟨?_, rfl⟩
          rw [HD.out]
          have h2' : ¬ n ≤ 57 := by omega
          have h4' : ¬ n ≤ 102 := by omega
          simp [h2', h4']
      · go_wp2
        go_ret
        refine ⟨?_, rfl⟩
        rw [HD.out]
        have h2' : ¬ n ≤ 57 := by omega
        have h3' : ¬ 97 ≤ n := by omega
        simp [h2', h3']
  · have h3 : ¬ (97 : Int) ≤ (n : Int) := by omega
    go_wp2
    go_ret
    refine ⟨?_, rfl⟩
    rw [HD.out]
    have h1' : ¬ 48 ≤ n := by omega
    have h3' : ¬ 97 ≤ n := by omega
    simp [h1', h3']
end Go.Proofs.YtgpjjlkkfddjnaaDoor
