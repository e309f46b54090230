/-
  The law's comparison of two devices that do alike: true.
-/
import Derived.Test.YtecljiefljgfmaaPair
import Derived.Test.YtecljiefljgfmaaEnc
import Derived.Test.YtecljiefljgfmaaSects
namespace Go.Proofs.Ytecljiefljgfmaa
open Go.RowKit

theorem p_cell0 {w wr : World} {d r : Nat} {K : Nat → Prop} {M : D} {N : R} (h : Pair w wr d r K M N) : ∃ ca cc, wr.cell? ⟨r, 0, none⟩ = some (.slice ca N.L.length cc) := by
  obtain ⟨F, G, h1, h2, _⟩ := h
  obtain ⟨gl, cl, ca, cc, hV, _⟩ := h2.open
  exact ⟨_, _, cell_blk hV.blk 0⟩
theorem p_rlt {w wr : World} {d r : Nat} {K : Nat → Prop} {M : D} {N : R} (h : Pair w wr d r K M N) : r < wr.heap.size := by
  obtain ⟨F, G, h1, h2, _⟩ := h
  obtain ⟨gl, cl, ca, cc, hV, _⟩ := h2.open
  exact (Array.getElem?_eq_some_iff.1 hV.blk).1

set_option maxHeartbeats 4000000 in
set_option maxRecDepth 20000 in
theorem same_any {w ws : World} {d r : Nat} {K : Nat → Prop} {M : D} {N : R} (h : Pair w ws d r K M N) (hs : Sim M N) (hC : M.C.length ≤ 100000) :
    Calls Try.prog 28 #[.pointer (some ⟨d, 0, none⟩), .pointer (some ⟨r, 0, none⟩)] ws fun e w' => e = .returned (.bool true) ∧ Below ws.heap.size ws w' := by
  have hNL : N.L.length ≤ 4096 := by rw [hs.l]; exact h.ok.top
  have hNW : N.W.length ≤ 100000 := by rw [hs.c]; exact hC
  obtain ⟨n, hn⟩ : ∃ n, n = N.L.length := ⟨_, rfl⟩
  obtain ⟨ca, cc, hc0⟩ := p_cell0 h
  obtain ⟨cb, cd, hc1, _⟩ := p_cells h
  rw [← hn] at hc0 hNL
  have hrl := p_rlt h
  have HC0 : Hid (∀ q, Below ws.heap.size ws q → q.cell? ⟨r, 0, none⟩ = some (.slice ca n cc) ∧ q.cell? ⟨r, 1, none⟩ = some (.slice cb N.W.length cd) ∧ Below ws.heap.size ws q) := fun q hq => ⟨(hq.cell (p := ⟨r, 0, none⟩) hrl).trans hc0, (hq.cell (p := ⟨r, 1, none⟩) hrl).trans hc1, hq⟩
  have HRD : Hid (∀ q (k : Nat), Below ws.heap.size ws q → Calls Try.prog 58 #[.pointer (some ⟨d, 0, none⟩), .int .i64 (k : Int)] q fun e w' => ∃ a cap, e = .returned (.tuple #[.slice a (N.rd k).1.size cap, .int .i64 (N.rd k).2]) ∧ Below ws.heap.size ws w' ∧ (convert 50 9 (.slice a (N.rd k).1.size cap)).run Try.prog w' = .ok (.string (N.rd k).1) w' ∧
      Calls Try.prog 59 #[.pointer (some ⟨r, 0, none⟩), .int .i64 (k : Int)] w' fun e w'' => e = .returned (.tuple #[.string (N.rd k).1, .int .i64 (N.rd k).2]) ∧ w' = w'') := (by
    intro q k hq
    have hp := h.below hq
    refine Calls.mono (p_read (k : Int) hp hs) ?_
    rintro e w' ⟨a, cap, rfl, hb, hby⟩
    refine ⟨a, cap, rfl, hq.trans (hb.mono hq.size), ?_, p_rread (k : Int) (hp.below hb) hNW⟩
    have hbb : Bytes w' a (N.rd k).1.data.toList := by
      rcases hby with ⟨rfl, e⟩ | ⟨g, rfl, hf, _⟩
      · rw [e]; exact .inl rfl
      · exact hf.bytes
    have := convert_bytes w' a cap _ hbb
    simpa using this)
  have HPE : Hid (∀ q, Below ws.heap.size ws q → Calls Try.prog 29 #[.pointer (some ⟨d, 0, none⟩)] q fun e w' => e = .returned (.int .i64 (N.W.length : Int)) ∧ q = w') := fun q hq => by
    have := p_pend (h.below hq)
    rwa [← hs.c] at this
  obtain ⟨nw, hnw⟩ : ∃ nw, nw = N.W.length := ⟨_, rfl⟩
  rw [← hnw] at HC0 HPE
  clear h hs hC hc0 hc1 hrl hn hNW hnw
  go_enter Try.func28, Try.ntmps28
  go_wp2
  go_loopw [5] (fun i q => ∃ k : Nat, k ≤ n ∧ i = .int .i64 k ∧ Below ws.heap.size ws q) (fun i _ => n - (intOf i).toNat)
  case atStart => exact ⟨0, Nat.zero_le _, rfl, Below.refl _ _⟩
  case round =>
    obtain ⟨k, hk, rfl, hbw⟩ := hrel
    obtain ⟨c0, c1, _⟩ := HC0.out wr hbw
    by_cases hlt : k < n
    · have hki : (k : Int) < (n : Int) := by omega
      have hrd := HRD.out wr k hbw
      obtain ⟨x, hx⟩ : ∃ x, x = (N.rd k).1 := ⟨_, rfl⟩
      obtain ⟨ev, hev⟩ : ∃ ev, ev = (N.rd k).2 := ⟨_, rfl⟩
      rw [← hx, ← hev] at hrd
      obtain ⟨sz, hsz⟩ : ∃ sz, sz = x.size := ⟨_, rfl⟩
      rw [← hsz] at hrd
      clear hx hev hsz
      go_wp2_with (first
        | (go_at_call 58; (with_reducible refine Calls.mono hrd ?_); rintro e w5 ⟨a5, c5, rfl, hb5, hcv5, hrr5⟩)
        | (go_at_call 59; (with_reducible refine Calls.mono hrr5 ?_); rintro e w6 ⟨rfl, rfl⟩))
      go_roundw
      case rel => exact ⟨k + 1, by omega, by go_num, hb5⟩
      case measure => simp [intOf]; omega
    · obtain rfl : k = n := by omega
      have hpe := HPE.out wr.drew hbw.drew
      have d1 : wr.drew.cell? ⟨r, 1, none⟩ = some (.slice cb nw cd) := c1
      go_wp2
      go_region_held3 (fun w' => w'.cell? ⟨r, 1, none⟩ = some (.slice cb nw cd)) (go_keep)
        (first
          | (go_at_call 29; (with_reducible refine Calls.mono hpe ?_); rintro e w5 ⟨rfl, rfl⟩))
      go_wp2
      go_ret
      exact ⟨by simp, hbw.drew⟩
end Go.Proofs.Ytecljiefljgfmaa
