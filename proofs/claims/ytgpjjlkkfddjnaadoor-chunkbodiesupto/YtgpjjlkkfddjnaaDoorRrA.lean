/-
  The document's reader of chunks: its box, digits, size.
-/
import Derived.Test.YtgpjjlkkfddjnaaDoorRdM
import Derived.Test.YtgpjjlkkfddjnaaDoorLwA
import Derived.Deep.RegionHeld3
namespace Go.Proofs.YtgpjjlkkfddjnaaDoor
open Go.RowKit

/-- The document's reader in the box p: at the place k, with the fault f. -/
structure Rr (w : World) (p B : Nat) (a : Option Addr) (cap : Nat) (l : List UInt8) (k : Nat) (f : Int) : Prop where
  box : w.heap[p]? = some (.cells #[.slice a l.length cap, .int .i64 (k : Int), .int .i64 f] 56 (0, 0))
  by_ : Bytes w a l
  lo : ∀ x, a = some x → x.spot = none ∧ x.block < B
  bp : B ≤ p
  kl : k ≤ l.length
theorem Rr.lt {w : World} {p B : Nat} {a : Option Addr} {cap : Nat} {l : List UInt8} {k : Nat} {f : Int} (h : Rr w p B a cap l k f) : p < w.heap.size := blk_lt h.box
theorem Rr.turn {w W : World} {p B : Nat} {a : Option Addr} {cap : Nat} {l : List UInt8} {k k' : Nat} {f f' : Int} (h : Rr w p B a cap l k f) (hm : Md (· = p) w W) (hk : k' ≤ l.length)
    (hbox : W.heap[p]? = some (.cells #[.slice a l.length cap, .int .i64 (k' : Int), .int .i64 f'] 56 (0, 0))) : Rr W p B a cap l k' f' :=
  ⟨hbox, h.by_.md hm (fun b off e hb => by have := (h.lo _ e).2; have := h.bp; simp only at *; omega), h.lo, h.bp, hk⟩
theorem Rr.keep {w W : World} {p B : Nat} {a : Option Addr} {cap : Nat} {l : List UInt8} {k : Nat} {f : Int} (h : Rr w p B a cap l k f) (hb : Below w.heap.size w W) : Rr W p B a cap l k f :=
  ⟨(hb.block p h.lt).trans h.box, h.by_.below hb (Nat.le_refl _), h.lo, h.bp, h.kl⟩
theorem Rr.cells {w : World} {p B : Nat} {a : Option Addr} {cap : Nat} {l : List UInt8} {k : Nat} {f : Int} (h : Rr w p B a cap l k f) : w.cell? ⟨p, 0, none⟩ = some (.slice a l.length cap) ∧ w.cell? ⟨p, 1, none⟩ = some (.int .i64 (k : Int)) ∧ w.cell? ⟨p, 2, none⟩ = some (.int .i64 f) ∧ w.frozen? ⟨p, 1, none⟩ = false ∧ w.frozen? ⟨p, 2, none⟩ = false :=
  ⟨(cell_blk h.box 0).trans rfl, (cell_blk h.box 1).trans rfl, (cell_blk h.box 2).trans rfl, frozen_blk h.box 1, frozen_blk h.box 2⟩
set_option maxHeartbeats 1000000 in
theorem rdigit_any (c : UInt8) (w : World) : Calls Tryd.prog 42 #[.int .u8 (c.toNat : Int)] w fun e w' => e = .returned (.bool (isDg c)) ∧ w' = w := by
  obtain ⟨n, hn⟩ : ∃ n, n = c.toNat := ⟨_, rfl⟩
  have HD : Hid (isDg c = (decide (48 ≤ n ∧ n ≤ 57) || decide (97 ≤ n ∧ n ≤ 102))) := by show _ = _; rw [hn]; rfl
  rw [← hn]
  clear hn
  go_enter Tryd.func42, Tryd.ntmps42
  by_cases h1 : (48 : Int) ≤ (n : Int)
  · by_cases h2 : (n : Int) ≤ 57
    · go_wp2
      go_ret
      refine ⟨?_, rfl⟩
      rw [HD.out]
      have h1' : 48 ≤ n := by omega
      have h2' : n ≤ 57 := by omega
      simp [h1', h2']
    · by_cases h3 : (97 : Int) ≤ (n : Int)
      · by_cases h4 : (n : Int) ≤ 102
        · go_wp2
          go_ret
          refine ⟨?_, rfl⟩
          rw [HD.out]
          have h3' : 97 ≤ n := by omega
          have h4' : n ≤ 102 := by omega
          simp [h3', h4']
        · go_wp2
          go_ret
          refine ⟨?_, rfl⟩
          rw [HD.out]
          have h2' : ¬ n ≤ 57 := by omega
          have h4' : ¬ n ≤ 102 := by omega
          simp [h2', h4']
      · go_wp2
        go_ret
        refine ⟨?_, rfl⟩
        rw [HD.out]
        have h2' : ¬ n ≤ 57 := by omega
        have h3' : ¬ 97 ≤ n := by omega
        simp [h2', h3']
  · have h3 : ¬ (97 : Int) ≤ (n : Int) := by omega
    go_wp2
    go_ret
    refine ⟨?_, rfl⟩
    rw [HD.out]
    have h1' : ¬ 48 ≤ n := by omega
    have h3' : ¬ 97 ≤ n := by omega
    simp [h1', h3']
set_option maxHeartbeats 1000000 in
theorem rDigit_any (c : UInt8) (hc : isDg c = true) (w : World) : Calls Tryd.prog 43 #[.int .u8 (c.toNat : Int)] w fun e w' => e = .returned (.int .i64 (dvN c : Int)) ∧ w' = w := by
  simp only [isDg, Bool.or_eq_true, decide_eq_true_eq] at hc
  have HV : Hid (dvN c = if 48 ≤ c.toNat ∧ c.toNat ≤ 57 then c.toNat - 48 else c.toNat - 87) := rfl
  obtain ⟨n, hn⟩ : ∃ n, n = c.toNat := ⟨_, rfl⟩
  rw [← hn] at hc HV ⊢
  clear hn
  by_cases h : 48 ≤ n ∧ n ≤ 57
  · have h1 : (48 : Int) ≤ (n : Int) := by omega
    have h2 : (n : Int) ≤ 57 := by omega
    have hw : IntKind.u8.wrap ((n : Int) - 48) = (n : Int) - 48 := by rw [IntKind.wrap_u8]; omega
    have hw2 : IntKind.i64.wrap ((n : Int) - 48) = (n : Int) - 48 := by rw [IntKind.wrap_i64]; omega
    have HX := (show Hid ((dvN c : Int) = (n : Int) - 48) from by show _ = _; rw [HV.out, if_pos h]; omega)
    clear hc
    go_enter Tryd.func43, Tryd.ntmps43
    go_wp2
    go_ret
    refine ⟨?_, rfl⟩
    rw [HX.out]
    rfl
  · have h97 : 97 ≤ n ∧ n ≤ 102 := by omega
    have h1 : ¬ (n : Int) ≤ 57 := by omega
    have h0 : (48 : Int) ≤ (n : Int) := by omega
    have h2 : (97 : Int) ≤ (n : Int) := by omega
    have h3 : (n : Int) ≤ 102 := by omega
    have hw : IntKind.u8.wrap ((n : Int) - 97) = (n : Int) - 97 := by rw [IntKind.wrap_u8]; omega
    have hw2 : IntKind.i64.wrap ((n : Int) - 97) = (n : Int) - 97 := by rw [IntKind.wrap_i64]; omega
    have HX := (show Hid ((dvN c : Int) = (n : Int) - 97 + 10) from by show _ = _; rw [HV.out, if_neg h]; omega)
    clear hc
    go_enter Tryd.func43, Tryd.ntmps43
    go_wp2
    go_ret
    refine ⟨?_, rfl⟩
    rw [HX.out]
    rfl
end Go.Proofs.YtgpjjlkkfddjnaaDoor
