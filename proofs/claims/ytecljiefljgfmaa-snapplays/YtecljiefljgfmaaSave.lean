/-
  Fits, within and Save by their contracts.
-/
import Derived.Test.YtecljiefljgfmaaHead
namespace Go.Proofs.Ytecljiefljgfmaa
open Go.RowKit

def fitsB (n size : Int) : Bool := decide (1 ≤ n ∧ 0 ≤ size ∧ (sect size.toNat : Int) ≤ n - 1)
theorem fits_any (n size : Int) (w : World) (hn : n ≤ 9223372036854775807) (hs : size ≤ 9223372036854775807) :
    Calls Try.prog 35 #[.int .i64 n, .int .i64 size] w fun e w' => e = .returned (.bool (fitsB n size)) ∧ w = w' := by
  by_cases h1 : 1 ≤ n
  · by_cases h2 : 0 ≤ size
    · obtain ⟨m, rfl⟩ : ∃ m : Nat, size = (m : Int) := ⟨size.toNat, by omega⟩
      have hc := count_any m w (by omega)
      have HE : Hid (fitsB n (m : Int) = decide ((sect m : Int) ≤ n - 1)) := (show _ = _ from by simp [fitsB, h1])
      rw [HE.out]
      obtain ⟨k, hk⟩ : ∃ k, k = sect m := ⟨_, rfl⟩
      rw [← hk] at hc ⊢
      have hkb : k ≤ 9223372036854775807 := by rw [hk]; unfold sect; omega
      clear HE hk
      go_enter Try.func35, Try.ntmps35
      go_wp2_with (go_at_call 53; refine Calls.mono hc ?_; rintro e w1 ⟨rfl, rfl⟩)
      go_ret
      exact ⟨rfl, rfl⟩
    · have HE : Hid (fitsB n size = false) := (show _ = _ from by simp [fitsB]; omega)
      rw [HE.out]
      go_enter Try.func35, Try.ntmps35
      go_wp2
      go_ret
      exact ⟨rfl, rfl⟩
  · have HE : Hid (fitsB n size = false) := (show _ = _ from by simp [fitsB]; omega)
    rw [HE.out]
    go_enter Try.func35, Try.ntmps35
    go_wp2
    go_ret
    exact ⟨rfl, rfl⟩

theorem swithin_yes (d p n : Nat) (w : World) (F : Nat → Prop) (M : D) (h : Dev w F d M) (h1 : 1 ≤ n) (hn : p + 2 * n ≤ M.L.length) :
    Calls Try.prog 60 #[.pointer (some ⟨d, 0, none⟩), .int .i64 (p : Int), .int .i64 (n : Int)] w fun e w' => e = .returned (.bool true) ∧ w = w' := by
  have hw1 := within_yes d p n w F M h (by omega)
  have hw2 := within_yes d (p + n) n w F M h (by omega)
  have htop := h.1.top
  rw [show ((p + n : Nat) : Int) = (p : Int) + (n : Int) from by omega] at hw2
  clear h
  go_enter Try.func60, Try.ntmps60
  go_wp2_with (first | (go_at_call 41; (with_reducible refine Calls.mono hw1 ?_); rintro e w1 ⟨rfl, rfl⟩) | (go_at_call 41; (with_reducible refine Calls.mono hw2 ?_); rintro e w1 ⟨rfl, rfl⟩))
  go_ret
  exact ⟨rfl, rfl⟩

/-- What Save does to a device: the state first, its head behind it. -/
def saveF (M : D) (q : Nat) (ep : Nat) (st : List UInt8) : Int × D :=
  if (wrsF M (q + 1) (psecs st)).1 ≠ 0 then wrsF M (q + 1) (psecs st) else wrsF (wrsF M (q + 1) (psecs st)).2 q (psecs (headL ep st))

theorem save_full (d p n ep : Nat) (a : Option Addr) (st : List UInt8) (cap : Nat) (w : World) (F : Nat → Prop) (M : D) (h : Dev w F d M) (h1 : 1 ≤ n) (hn : p + 2 * n ≤ M.L.length) (hl : st.length ≤ 9223372036854775807) (hf : fitsB n st.length = false) :
    Calls Try.prog 31 #[.pointer (some ⟨d, 0, none⟩), .int .i64 (p : Int), .int .i64 (n : Int), .int .u64 (ep : Int), .slice a st.length cap] w fun e w' => e = .returned (.int .i64 60) ∧ w = w' := by
  have hw1 := swithin_yes d p n w F M h h1 hn
  have htop := h.1.top
  have hfi := fits_any n st.length w (by omega) (by omega)
  rw [hf] at hfi
  clear h hf
  go_enter Try.func31, Try.ntmps31
  go_wp2_with (first | (go_at_call 60; refine Calls.mono hw1 ?_; rintro e w1 ⟨rfl, rfl⟩) | (go_at_call 35; refine Calls.mono hfi ?_; rintro e w1 ⟨rfl, rfl⟩))
  go_ret
  exact ⟨rfl, rfl⟩

/-- The head is laid behind the state. -/
theorem save_tail (d q ep : Nat) (a : Option Addr) (st : List UInt8) (cap : Nat) (w w1 : World) (F : Nat → Prop) (N : D) (hFlt : ∀ k, F k → k < w.heap.size) (hD : Dev w1 (Grow F w w1) d N) (hT : Turn F w w1) (hC : N.C = []) (hep : ep < 18446744073709551616) (hb : Bytes w a st) (hab : st ≠ [] → ∀ ad, a = some ad → ¬ F ad.block) (hl : st.length ≤ 100000000) (hno : a = none → cap = 0) (hq : q ≤ 100000) :
    Calls Try.prog 62 #[.agg #[.int .u64 (ep : Int), .slice a st.length cap]] w1 fun e w2 => ∃ g c, e = .returned (.slice (some ⟨g, 0, none⟩) 24 c) ∧
      Calls Try.prog 61 #[.pointer (some ⟨d, 0, none⟩), .int .i64 (q : Int), .slice (some ⟨g, 0, none⟩) 24 c] w2 fun e w3 => e = .returned (.int .i64 (wrsF N q (psecs (headL ep st))).1) ∧ Dev w3 (Grow F w w3) d (wrsF N q (psecs (headL ep st))).2 ∧ Turn F w w3 := by
  have hb1 : Bytes w1 a st := by
    by_cases h0 : st = []
    · exact .inl h0
    · exact hb.turn hT (hab h0)
  refine Calls.mono (head_any ep a st cap w1 hep hb1 hl hno) ?_
  rintro e w2 ⟨v2, rfl, ho2, hb2⟩
  obtain ⟨g, c, rfl, hlc, hg1, hg2⟩ := ho2.addr (by rw [headL_length]; omega)
  obtain ⟨a', c', he, hby⟩ := ho2.bytes
  simp only [Value.slice.injEq] at he
  obtain ⟨rfl, _⟩ := he
  have hsz := hT.size
  have hsw := swrite_any d q (some ⟨g, 0, none⟩) (headL ep st) c w2 (Grow F w w1) N (hD.below hb2) hby (by
    intro _ ad e hf
    simp only [Option.some.injEq] at e
    subst e
    rcases hf with hf | hf
    · have := hFlt _ hf; simp at this; omega
    · simp at hf; omega) hlc (by rw [hC, headL_length]; simp [sect]) hq
  rw [headL_length] at hsw ⊢
  refine ⟨g, c, rfl, Calls.mono hsw ?_⟩
  rintro e w3 ⟨rfl, hD3, hT3⟩
  refine ⟨rfl, hD3.wider ?_ ?_, hT.trans ((Turn.of_below hb2).trans' hT3)⟩
  · intro k hk
    have := hb2.size; have := hT3.size
    rcases hk with (hk | hk) | hk
    · exact .inl hk
    · exact .inr ⟨hk.1, by omega⟩
    · exact .inr ⟨by omega, hk.2⟩
  · intro k hk
    have := hb2.size; have := hT3.size
    rcases hk with hk | hk
    · have := hFlt k hk; omega
    · exact hk.2

set_option maxHeartbeats 2000000 in
set_option maxRecDepth 20000 in
theorem save_ok (d p n ep q : Nat) (a : Option Addr) (st : List UInt8) (cap : Nat) (w : World) (F : Nat → Prop) (M : D) (h : Dev w F d M) (h1 : 1 ≤ n) (hn : p + 2 * n ≤ M.L.length) (hf : fitsB n st.length = true) (hq : q = p + ep % 2 * n) (hep : ep < 18446744073709551616)
    (hb : Bytes w a st) (hab : st ≠ [] → ∀ ad, a = some ad → ¬ F ad.block) (hlc : st.length ≤ cap) (hno : a = none → cap = 0) (hC : M.C.length ≤ 10000) :
    Calls Try.prog 31 #[.pointer (some ⟨d, 0, none⟩), .int .i64 (p : Int), .int .i64 (n : Int), .int .u64 (ep : Int), .slice a st.length cap] w fun e w' => e = .returned (.int .i64 (saveF M q ep st).1) ∧ Dev w' (Grow F w w') d (saveF M q ep st).2 ∧ Turn F w w' := by
  have hw1 := swithin_yes d p n w F M h h1 hn
  have htop := h.1.top
  have hfn : sect st.length ≤ n - 1 := by
    simp only [fitsB, decide_eq_true_eq, Int.toNat_natCast] at hf
    omega
  have hsl : st.length ≤ 256 * (n - 1) := Nat.le_trans (sect_le _) (Nat.mul_le_mul_left _ hfn)
  have hfi := fits_any n st.length w (by omega) (by omega)
  rw [hf] at hfi
  have hq4 : q ≤ 4096 := by
    rw [hq]
    rcases (by omega : ep % 2 = 0 ∨ ep % 2 = 1) with h0 | h0 <;> rw [h0] <;> omega
  have hsw := swrite_any d (q + 1) a st cap w F M h hb hab hlc (by omega) (by omega)
  obtain ⟨R, hR⟩ : ∃ R, R = wrsF M (q + 1) (psecs st) := ⟨_, rfl⟩
  rw [← hR, show ((q + 1 : Nat) : Int) = (q : Int) + 1 from by omega] at hsw
  have HT := fun w1 (hD : Dev w1 (Grow F w w1) d R.2) (hT : Turn F w w1) (hC : R.2.C = []) => save_tail d q ep a st cap w w1 F R.2 h.2.1 hD hT hC hep hb hab (by omega) hno (by omega)
  have HE : Hid (R.1 = 0 → R.2.C = []) := (show _ → _ from by rw [hR]; exact wrsF_empty _ _ _)
  have HSF : Hid (saveF M q ep st = if R.1 ≠ 0 then R else wrsF R.2 q (psecs (headL ep st))) := (show _ = _ from by rw [saveF, ← hR])
  have HTH := (show Hid _ from HT)
  obtain ⟨E, N⟩ := R
  obtain ⟨k, hk⟩ : ∃ k, k = st.length := ⟨_, rfl⟩
  rw [← hk] at hfi hsw ⊢
  simp only [← hk] at HTH
  have hkb : k ≤ 1048576 := by omega
  have hpb : p ≤ 4096 := by omega
  have hnb : n ≤ 4096 := by omega
  rcases (by omega : ep % 2 = 0 ∨ ep % 2 = 1) with h0 | h0
  · have hrem : (ep : Int) % 2 = 0 := by omega
    obtain rfl : q = p := by rw [hq, h0]; omega
    clear h hf hq hb hab hlc hR hC h0 hn hk hfn hsl HT
    by_cases hE : E = 0
    · subst hE
      have HNC : Hid (N.C = []) := HE.out rfl
      clear HE
      go_enter Try.func31, Try.ntmps31
      go_wp2_with (first
        | (go_at_call 60; refine Calls.mono hw1 ?_; rintro e w1 ⟨rfl, rfl⟩)
        | (go_at_call 35; refine Calls.mono hfi ?_; rintro e w1 ⟨rfl, rfl⟩)
        | (go_at_call 61; refine Calls.mono hsw ?_; rintro e w1 ⟨rfl, hD1, hT1⟩; have ht := HTH.out w1 hD1 hT1 HNC.out; clear hD1 hT1 hsw)
        | (go_at_call 62; refine Calls.mono ht ?_; rintro e w2 ⟨g, c, rfl, ht2⟩)
        | (go_at_call 61; refine Calls.mono ht2 ?_; rintro e w3 ⟨rfl, hD3, hT3⟩))
      go_ret
      rw [HSF.out]
      exact ⟨rfl, hD3, hT3⟩
    · have hb0 : (E != 0) = true := by rw [bne_iff_ne]; exact hE
      have HE2 : Hid (saveF M q ep st = (E, N)) := (show _ = _ from by rw [HSF.out, if_pos hE])
      clear hE HTH
      go_enter Try.func31, Try.ntmps31
      go_wp2_with (first
        | (go_at_call 60; refine Calls.mono hw1 ?_; rintro e w1 ⟨rfl, rfl⟩)
        | (go_at_call 35; refine Calls.mono hfi ?_; rintro e w1 ⟨rfl, rfl⟩)
        | (go_at_call 61; refine Calls.mono hsw ?_; rintro e w1 ⟨rfl, hD1, hT1⟩))
      go_ret
      rw [HE2.out]
      exact ⟨rfl, hD1, hT1⟩
  · have hrem : (ep : Int) % 2 = 1 := by omega
    have hq2 : (p : Int) + (n : Int) = (q : Int) := by rw [hq, h0]; omega
    clear h hf hq hb hab hlc hR hC h0 hn hk hfn hsl HT
    by_cases hE : E = 0
    · subst hE
      have HNC : Hid (N.C = []) := HE.out rfl
      clear HE
      go_enter Try.func31, Try.ntmps31
      go_wp2_with (first
        | (go_at_call 60; refine Calls.mono hw1 ?_; rintro e w1 ⟨rfl, rfl⟩)
        | (go_at_call 35; refine Calls.mono hfi ?_; rintro e w1 ⟨rfl, rfl⟩)
        | (go_at_call 61; refine Calls.mono hsw ?_; rintro e w1 ⟨rfl, hD1, hT1⟩; have ht := HTH.out w1 hD1 hT1 HNC.out; clear hD1 hT1 hsw)
        | (go_at_call 62; refine Calls.mono ht ?_; rintro e w2 ⟨g, c, rfl, ht2⟩)
        | (go_at_call 61; refine Calls.mono ht2 ?_; rintro e w3 ⟨rfl, hD3, hT3⟩))
      go_ret
      rw [HSF.out]
      exact ⟨rfl, hD3, hT3⟩
    · have hb0 : (E != 0) = true := by rw [bne_iff_ne]; exact hE
      have HE2 : Hid (saveF M q ep st = (E, N)) := (show _ = _ from by rw [HSF.out, if_pos hE])
      clear hE HTH
      go_enter Try.func31, Try.ntmps31
      go_wp2_with (first
        | (go_at_call 60; refine Calls.mono hw1 ?_; rintro e w1 ⟨rfl, rfl⟩)
        | (go_at_call 35; refine Calls.mono hfi ?_; rintro e w1 ⟨rfl, rfl⟩)
        | (go_at_call 61; refine Calls.mono hsw ?_; rintro e w1 ⟨rfl, hD1, hT1⟩))
      go_ret
      rw [HE2.out]
      exact ⟨rfl, hD1, hT1⟩
end Go.Proofs.Ytecljiefljgfmaa
