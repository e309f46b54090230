/-
  How sectors are made to last: the log's write by its contract.
-/
import Derived.Test.YtfibmkackckodaaSeal
namespace Go.Proofs.Ytfibmkackckodaa
open Go.RowKit

/-- Writes one behind the other, up to the first that fails. -/
def wrs (M : D) (p : Nat) : List ByteArray → Int × D
  | [] => (0, M)
  | b :: r => if (M.wr (p : Int) b).1 ≠ 0 then M.wr (p : Int) b else wrs (M.wr (p : Int) b).2 (p + 1) r
def wrsF (M : D) (p : Nat) (xs : List ByteArray) : Int × D := if (wrs M p xs).1 ≠ 0 then wrs M p xs else (wrs M p xs).2.flush

def Sl.b (s : Sl) : ByteArray := ⟨s.l.toArray⟩
/-- A row of sectors, from some item of it on. -/
structure RwsAt (w : World) (F : Nat → Prop) (b off : Nat) (xs : List Sl) : Prop where
  lt : b < w.heap.size
  nf : ¬ F b
  item : ∀ j (h : j < xs.length), w.cell? ⟨b, off + j, none⟩ = some xs[j].v ∧ Bytes w xs[j].a xs[j].l ∧ (∀ ad, xs[j].a = some ad → ¬ F ad.block) ∧ xs[j].l.length = 256

theorem wr_cap (M : D) (i : Int) (b : ByteArray) : (M.wr i b).2.C.length ≤ M.C.length + 1 := by
  unfold D.wr
  split
  · exact Nat.le_succ _
  · split
    · rw [M.burn_L.2.2]; omega
    · show (M.C ++ [(i.toNat, b)]).length ≤ _; simp

theorem Dev.regrow {w w1 w2 : World} {F : Nat → Prop} {d : Nat} {M : D} (h : Dev w2 (Grow (Grow F w w1) w1 w2) d M) (h1 : w.heap.size ≤ w1.heap.size) (h2 : w1.heap.size ≤ w2.heap.size) : Dev w2 (Grow F w w2) d M := by
  obtain ⟨q1, q2, lv, sv, cv, q3, q4⟩ := h
  refine ⟨q1, ?_, lv, sv, cv, q3, fun k hk => Grow.trans h1 h2 (q4 k hk)⟩
  intro k hk
  rcases hk with hk | hk
  · exact q2 k (.inl (.inl hk))
  · exact hk.2

set_option maxHeartbeats 4000000 in
set_option maxRecDepth 100000 in
theorem lwrite_any (l d : Nat) (g : G) (p : Nat) (a : Option Addr) (xs : List Sl) (cap : Nat) (w : World) (F : Nat → Prop) (M : D) (h : Dev w F d M) (hL : LogV w l d g) (hlF : ¬ F l) (hx : xs = [] ∨ ∃ b off, a = some ⟨b, off, none⟩ ∧ RwsAt w F b off xs) (hC : M.C.length + xs.length ≤ 90000) (hp : p + xs.length ≤ 100000) :
    Calls Try.prog 64 #[.pointer (some ⟨l, 0, none⟩), .int .i64 (p : Int), .slice a xs.length cap] w fun e w' => e = .returned (.int .i64 (wrsF M p (xs.map Sl.b)).1) ∧ Dev w' (Grow F w w') d (wrsF M p (xs.map Sl.b)).2 ∧ Turn F w w' := by
  have hlt : l < w.heap.size := (Array.getElem?_eq_some_iff.1 hL).1
  have HX : Hid (xs = [] ∨ ∃ b off, a = some ⟨b, off, none⟩ ∧ RwsAt w F b off xs) := hx
  have HC0 : Hid (∀ q, Turn F w q → q.cell? ⟨l, 0, none⟩ = some (.pointer (some ⟨d, 0, none⟩))) := fun q hq => by
    have := (hq.block l hlt hlF).trans hL
    exact cell_blk this 0
  have HD : Hid (Dev w (Grow F w w) d M) := (show Dev w (Grow F w w) d M from h.grow)
  have hFlt := h.2.1
  have HFL : Hid (∀ k, F k → k < w.heap.size) := hFlt
  clear h hL hx hFlt
  go_enter Try.func64, Try.ntmps64
  go_wp2
  go_loopw [12] (fun i wr => ∃ (k : Nat) (N : D), k ≤ xs.length ∧ i = .int .i64 k ∧ Dev wr (Grow F w wr) d N ∧ Turn F w wr ∧ N.C.length ≤ M.C.length + k ∧ wrs M p (xs.map Sl.b) = wrs N (p + k) ((xs.drop k).map Sl.b)) (fun i _ => xs.length - (intOf i).toNat)
  case atStart => exact ⟨0, M, Nat.zero_le _, rfl, HD.out, Turn.refl _ _, by omega, rfl⟩
  case round =>
    obtain ⟨k, N, hk, rfl, hN, hT, hNC, hwr⟩ := hrel
    have c0 := HC0.out wr hT
    clear HD
    by_cases hltk : k < xs.length
    · obtain ⟨b, off, rfl, hr⟩ := HX.out.resolve_left (by rintro rfl; simp at hltk)
      obtain ⟨hcell, hby, hnf, hl256⟩ := hr.item k hltk
      obtain ⟨s, hs⟩ : ∃ s, s = xs[k] := ⟨_, rfl⟩
      rw [← hs] at hcell hby hnf hl256
      have hcr : wr.cell? ⟨b, off + k, none⟩ = some (.slice s.a s.l.length s.c) := (World.cell?_of_block (w := w) (a := ⟨b, off + k, none⟩) (hT.block b hr.lt hr.nf)).trans hcell
      have hbr : Bytes wr s.a s.l := hby.turn hT hnf
      have hdrop : (xs.drop k).map Sl.b = s.b :: (xs.drop (k + 1)).map Sl.b := by
        rw [List.drop_eq_getElem_cons hltk, ← hs]; rfl
      rw [hdrop, wrs] at hwr
      have hwc := write_any d ((p + k : Nat) : Int) s.a s.l s.c wr (Grow F w wr) N hN hbr (by
        intro ad e hf
        rcases hf with hf | hf
        · exact hnf ad e hf
        · rcases hby with h0 | ⟨b', off', e', hb', _⟩
          · rw [h0] at hl256; simp at hl256
          · rw [e'] at e
            simp only [Option.some.injEq] at e
            subst e
            simp at hf
            omega) (by omega)
      have hki : (k : Int) < (xs.length : Int) := by omega
      obtain ⟨q, hq⟩ : ∃ q, q = p + k := ⟨_, rfl⟩
      have hq2 : (p : Int) + (k : Int) = (q : Int) := by omega
      rw [← hq] at hwc hwr
      rw [show (⟨s.l.toArray⟩ : ByteArray) = s.b from rfl] at hwc
      have hcap := wr_cap N (q : Int) s.b
      obtain ⟨ev, hev⟩ : ∃ ev, ev = (N.wr (q : Int) s.b).1 := ⟨_, rfl⟩
      obtain ⟨N2, hN2⟩ : ∃ N2, N2 = (N.wr (q : Int) s.b).2 := ⟨_, rfl⟩
      rw [← hev, ← hN2] at hwc
      rw [← hev, ← hN2, show N.wr (q : Int) s.b = (ev, N2) from by rw [hev, hN2]] at hwr
      rw [← hN2] at hcap
      have HW : Hid (wrs M p (xs.map Sl.b) = if ev ≠ 0 then (ev, N2) else wrs N2 (q + 1) ((xs.drop (k + 1)).map Sl.b)) := hwr
      have HT : Hid (Turn F w wr) := hT
      have HQ : Hid (q = p + k) := hq
      have HCP : Hid (N2.C.length ≤ M.C.length + (k + 1)) := (show _ ≤ _ from by omega)
      have HWC : Hid (Calls Try.prog 19 #[.pointer (some ⟨d, 0, none⟩), .int .i64 (q : Int), .slice s.a s.l.length s.c] wr fun e w' => e = .returned (.int .i64 ev) ∧ Dev w' (Grow (Grow F w wr) wr w') d N2 ∧ Turn (Grow F w wr) wr w') := hwc
      clear hN hT hwr hbr hby hcell hnf hwc hev hN2 hcap hdrop hs hr hq hNC hl256
      by_cases h0 : ev = 0
      · subst h0
        go_wp2_with (go_at_call 19; refine Calls.mono HWC.out ?_; rintro e w5 ⟨rfl, hD5, hT5⟩)
        go_roundw
        case rel => exact ⟨k + 1, N2, by omega, by go_num, hD5.regrow HT.out.size hT5.size, HT.out.trans hT5, HCP.out, by rw [HW.out, if_neg (by simp), HQ.out]; rfl⟩
        case measure => simp [intOf]; omega
      · have hb0 : (ev != 0) = true := by rw [bne_iff_ne]; exact h0
        have HE : Hid (wrsF M p (xs.map Sl.b) = (ev, N2)) := (show _ = _ from by rw [wrsF, HW.out, if_pos h0, if_pos h0])
        clear h0
        go_wp2_with (go_at_call 19; refine Calls.mono HWC.out ?_; rintro e w5 ⟨rfl, hD5, hT5⟩)
        go_ret
        rw [HE.out]
        exact ⟨rfl, hD5.regrow HT.out.size hT5.size, HT.out.trans hT5⟩
    · obtain rfl : k = xs.length := by omega
      rw [List.drop_length] at hwr
      have hfl := flush_any d wr (Grow F w wr) N hN (by omega)
      have HE : Hid (wrsF M p (xs.map Sl.b) = N.flush) := (show _ = _ from by rw [wrsF, hwr]; simp [wrs])
      have HT : Hid (Turn F w wr) := hT
      clear hN hT hwr hNC
      go_wp2_with (go_at_call 80; refine Calls.mono hfl ?_; rintro e w5 ⟨rfl, hD5, hT5⟩)
      go_ret
      rw [HE.out]
      exact ⟨rfl, hD5.grow.regrow HT.out.size hT5.size, HT.out.trans hT5⟩
end Go.Proofs.Ytfibmkackckodaa
