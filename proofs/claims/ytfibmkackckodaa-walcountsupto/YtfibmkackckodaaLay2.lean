/-
  How a frame is laid: lay by its contract.
-/
import Derived.Test.YtfibmkackckodaaTail
namespace Go.Proofs.Ytfibmkackckodaa
open Go.RowKit

/-- A sector of a frame, and all of them. -/
def fsec (P : List UInt8) (j : Nat) : List UInt8 := (P.drop (256 * j)).take 256
def slc (b : Nat) (P : List UInt8) (j : Nat) : Sl := ⟨some ⟨b, 256 * j, none⟩, fsec P j, 256⟩
def sls (b : Nat) (P : List UInt8) (n : Nat) : List Sl := (List.range n).map (slc b P)
def fsecB (P : List UInt8) (j : Nat) : ByteArray := ⟨(fsec P j).toArray⟩
def fsecs (P : List UInt8) (n : Nat) : List ByteArray := (List.range n).map (fsecB P)
def zsec : ByteArray := ⟨(List.replicate 256 (0 : UInt8)).toArray⟩
/-- What lies behind a frame's first sector. -/
def behind (P : List UInt8) (n : Nat) (more : Bool) : List ByteArray := (fsecs P n).drop 1 ++ if more then [zsec] else []
/-- The frame is laid. -/
def layF (M : D) (g : G) (P : List UInt8) (n : Nat) : Int × D :=
  if (wrsF M (g.at' + 1) (behind P n (decide (n < g.fin - g.at')))).1 ≠ 0 then wrsF M (g.at' + 1) (behind P n (decide (n < g.fin - g.at')))
  else wrsF (wrsF M (g.at' + 1) (behind P n (decide (n < g.fin - g.at')))).2 g.at' [fsecB P 0]

theorem sls_b (b : Nat) (P : List UInt8) (n : Nat) : (sls b P n).map Sl.b = fsecs P n := by simp [sls, fsecs, Function.comp_def, slc, Sl.b, fsecB]
theorem sls_length (b : Nat) (P : List UInt8) (n : Nat) : (sls b P n).length = n := by simp [sls]
theorem fsec_length {P : List UInt8} {n j : Nat} (hP : P.length = 256 * n) (hj : j < n) : (fsec P j).length = 256 := by
  rw [fsec, List.length_take, List.length_drop, hP]; omega
theorem slc_v {b : Nat} {P : List UInt8} {n j : Nat} (hP : P.length = 256 * n) (hj : j < n) : (slc b P j).v = chk b j := by
  show Value.slice _ (fsec P j).length 256 = _
  rw [fsec_length hP hj]; rfl
theorem fsec_bytes {w : World} {b : Nat} {P : List UInt8} (h : Bytes w (some ⟨b, 0, none⟩) P) (j : Nat) : Bytes w (some ⟨b, 256 * j, none⟩) (fsec P j) := by
  have := (h.drop (256 * j)).take 256
  rwa [Nat.zero_add] at this

theorem flush_burn (M : D) (h : M.flush.1 = 0) : M.flush.2.C = [] := by
  unfold D.flush at h ⊢
  split
  · rename_i h1; rw [if_pos h1] at h; exact absurd h h1
  · rfl
theorem wrsF_empty (M : D) (p : Nat) (xs : List ByteArray) (h : (wrsF M p xs).1 = 0) : (wrsF M p xs).2.C = [] := by
  unfold wrsF at h ⊢
  split
  · rename_i h1; rw [if_pos h1] at h; exact absurd h h1
  · rename_i h1; rw [if_neg h1] at h; exact flush_burn _ h

/-- The row of a frame's sectors, from the item o on. -/
theorem rws_from {w : World} {F : Nat → Prop} {base gr b n cr : Nat} {P : List UInt8} (hrow : w.ownsRow base 50 1 (.slice (some ⟨gr, 0, none⟩) n cr) n ((List.range n).map (chk b))) (hn : 1 ≤ n) (hP : Bytes w (some ⟨b, 0, none⟩) P) (hPl : P.length = 256 * n) (hgF : ¬ F gr) (hbF : ¬ F b) (o : Nat) :
    RwsAt w F gr o ((sls b P n).drop o) := by
  obtain ⟨g', c', he, _, _, hlt⟩ := owns_head hrow hn
  simp only [Value.slice.injEq, Option.some.injEq, Addr.mk.injEq, and_true] at he
  obtain ⟨rfl, _⟩ := he
  refine ⟨hlt, hgF, ?_⟩
  intro j hj
  rw [List.length_drop, sls_length] at hj
  have hx : ((sls b P n).drop o)[j]'(by rw [List.length_drop, sls_length]; exact hj) = slc b P (o + j) := by simp [sls]
  rw [hx]
  refine ⟨?_, fsec_bytes hP _, ?_, fsec_length hPl (by omega)⟩
  · rw [slc_v hPl (by omega)]
    have := owns_cell hrow (j := o + j) (u := chk b (o + j)) (by rw [List.getElem?_map, List.getElem?_range (by omega)]; rfl)
    simpa using this
  · intro ad e
    simp only [slc, Option.some.injEq] at e
    subst e
    exact hbF
theorem rws_first {w : World} {F : Nat → Prop} {gr b n : Nat} {P : List UInt8} (hc : w.cell? ⟨gr, 0, none⟩ = some (chk b 0)) (hlt : gr < w.heap.size) (hn : 1 ≤ n) (hP : Bytes w (some ⟨b, 0, none⟩) P) (hPl : P.length = 256 * n) (hgF : ¬ F gr) (hbF : ¬ F b) :
    RwsAt w F gr 0 [slc b P 0] := by
  refine ⟨hlt, hgF, ?_⟩
  intro j hj
  simp only [List.length_cons, List.length_nil, Nat.zero_add, Nat.lt_one_iff] at hj
  subst hj
  refine ⟨by rw [show ([slc b P 0][0] : Sl) = slc b P 0 from rfl, slc_v hPl hn]; exact hc, fsec_bytes hP 0, ?_, fsec_length hPl hn⟩
  intro ad e
  simp only [slc, List.getElem_cons_zero, Option.some.injEq] at e
  subst e
  exact hbF

/-- The first sector, behind all others. -/
theorem first_write (l d : Nat) (g : G) (gr b n cr : Nat) (P : List UInt8) (w w5 : World) (F : Nat → Prop) (N : D) (hL : LogV w l d g) (hlF : ¬ F l) (hc : w.cell? ⟨gr, 0, none⟩ = some (chk b 0)) (hglt : gr < w.heap.size) (hP : Bytes w (some ⟨b, 0, none⟩) P) (hbl : b < w.heap.size) (hPl : P.length = 256 * n) (hn : 1 ≤ n) (hgF : ¬ F gr) (hbF : ¬ F b) (hat : g.at' ≤ 4096)
    (hD : Dev w5 (Grow F w w5) d N) (hT : Turn F w w5) (hC : N.C = []) :
    w5.cell? ⟨l, 1, none⟩ = some (.int .i64 (g.at' : Int)) ∧
    Calls Try.prog 64 #[.pointer (some ⟨l, 0, none⟩), .int .i64 (g.at' : Int), .slice (some ⟨gr, 0, none⟩) 1 cr] w5 fun e w' => e = .returned (.int .i64 (wrsF N g.at' [fsecB P 0]).1) ∧ Dev w' (Grow F w w') d (wrsF N g.at' [fsecB P 0]).2 ∧ Turn F w w' := by
  have hlt : l < w.heap.size := (Array.getElem?_eq_some_iff.1 hL).1
  have hL5 : LogV w5 l d g := (hT.block l hlt hlF).trans hL
  have hng : ∀ k, k < w.heap.size → ¬ F k → ¬ Grow F w w5 k := fun k hk hf hG => by
    rcases hG with h | h
    · exact hf h
    · omega
  have hc5 : w5.cell? ⟨gr, 0, none⟩ = some (chk b 0) := (World.cell?_of_block (w := w) (a := ⟨gr, 0, none⟩) (hT.block gr hglt hgF)).trans hc
  have hP5 : Bytes w5 (some ⟨b, 0, none⟩) P := hP.turn hT (by intro ad e; simp only [Option.some.injEq] at e; subst e; exact hbF)
  refine ⟨cell_blk hL5 1, ?_⟩
  have := lwrite_any l d g g.at' (some ⟨gr, 0, none⟩) [slc b P 0] cr w5 (Grow F w w5) N hD hL5 (hng l hlt hlF) (.inr ⟨gr, 0, rfl, rws_first hc5 (Nat.lt_of_lt_of_le hglt hT.size) hn hP5 hPl (hng gr hglt hgF) (hng b hbl hbF)⟩) (by rw [hC]; simp) (by simp; omega)
  refine Calls.mono this ?_
  rintro e w6 ⟨rfl, hD6, hT6⟩
  exact ⟨rfl, hD6.regrow hT.size hT6.size, hT.trans hT6⟩

set_option maxHeartbeats 4000000 in
set_option maxRecDepth 100000 in
theorem lay_just (l d : Nat) (g : G) (base gr b n cr : Nat) (P : List UInt8) (w : World) (F : Nat → Prop) (M : D) (h : Dev w F d M) (hL : LogV w l d g) (hok : g.Ok) (hlF : ¬ F l)
    (hrow : w.ownsRow base 50 1 (.slice (some ⟨gr, 0, none⟩) n cr) n ((List.range n).map (chk b))) (hP : Bytes w (some ⟨b, 0, none⟩) P) (hPl : P.length = 256 * n) (hn : 1 ≤ n) (hnr : n = g.fin - g.at') (hgF : ¬ F gr) (hbF : ¬ F b) (hC : M.C.length ≤ 80000) :
    Calls Try.prog 38 #[.pointer (some ⟨l, 0, none⟩), .slice (some ⟨gr, 0, none⟩) n cr] w fun e w' => e = .returned (.int .i64 (layF M g P n).1) ∧ Dev w' (Grow F w w') d (layF M g P n).2 ∧ Turn (fun k => F k ∨ k = gr) w w' := by
  have hn4 : n ≤ 4096 := by have := hok.top; omega
  have hat4 : g.at' ≤ 4096 := by have := hok.top; have := hok.le; omega
  obtain ⟨g', c', he, hncr, hbg, hglt⟩ := owns_head hrow hn
  simp only [Value.slice.injEq, Option.some.injEq, Addr.mk.injEq, and_true] at he
  obtain ⟨rfl, _, rfl⟩ := he
  have hbl : b < w.heap.size := by
    rcases hP with h0 | ⟨b', off', e', hb', _⟩
    · rw [h0] at hPl; simp at hPl; omega
    · simp only [Option.some.injEq, Addr.mk.injEq] at e'
      rw [e'.1]; exact hb'
  have hrm := room_any l d g w hL hok
  rw [← hnr] at hrm
  have hbe : behind P n (decide (n < g.fin - g.at')) = ((sls b P n).drop 1).map Sl.b := by
    rw [behind, decide_eq_false (by omega), List.map_drop, sls_b]; simp
  have hc0 : w.cell? ⟨gr, 0, none⟩ = some (chk b 0) := by
    have := owns_cell hrow (j := 0) (u := chk b 0) (by rw [List.getElem?_map, List.getElem?_range (by omega)]; rfl)
    simpa using this
  obtain ⟨R, hR⟩ : ∃ R, R = wrsF M (g.at' + 1) (behind P n (decide (n < g.fin - g.at'))) := ⟨_, rfl⟩
  have HF : Hid (∀ w5, Dev w5 (Grow F w.drew w5) d R.2 → Turn F w.drew w5 → R.2.C = [] → w5.cell? ⟨l, 1, none⟩ = some (.int .i64 (g.at' : Int)) ∧ Calls Try.prog 64 #[.pointer (some ⟨l, 0, none⟩), .int .i64 (g.at' : Int), .slice (some ⟨gr, 0, none⟩) 1 cr] w5 fun e w' => e = .returned (.int .i64 (wrsF R.2 g.at' [fsecB P 0]).1) ∧ Dev w' (Grow F w.drew w') d (wrsF R.2 g.at' [fsecB P 0]).2 ∧ Turn F w.drew w') :=
    fun w5 => first_write l d g gr b n cr P w.drew w5 F R.2 hL hlF hc0 hglt hP hbl hPl hn hgF hbF hat4
  have HWA : Hid (∀ o, o = (if cr = 1 then 0 else 1) → Calls Try.prog 64 #[.pointer (some ⟨l, 0, none⟩), .int .i64 ((g.at' : Int) + 1), .slice (some ⟨gr, o, none⟩) (n - 1) (cr - 1)] w.drew fun e w' => e = .returned (.int .i64 R.1) ∧ Dev w' (Grow F w.drew w') d R.2 ∧ Turn F w.drew w') := by
    intro o ho
    have hwa := lwrite_any l d g (g.at' + 1) (some ⟨gr, o, none⟩) ((sls b P n).drop 1) (cr - 1) w.drew F M (h.below ((Below.refl _ _).drew)) hL hlF (by
      by_cases h1 : n = 1
      · left; rw [List.drop_eq_nil_of_le (by rw [sls_length]; omega)]
      · right
        refine ⟨gr, o, rfl, ?_⟩
        have : o = 1 := by rw [ho, if_neg (by omega)]
        subst this
        exact rws_from (w := w.drew) hrow hn hP hPl hgF hbF 1) (by rw [List.length_drop, sls_length]; omega) (by rw [List.length_drop, sls_length]; omega)
    rw [List.length_drop, sls_length, ← hbe, ← hR, show ((g.at' + 1 : Nat) : Int) = (g.at' : Int) + 1 from by omega] at hwa
    exact hwa
  have c1 : w.cell? ⟨l, 1, none⟩ = some (.int .i64 (g.at' : Int)) := cell_blk hL 1
  have HLF : Hid (layF M g P n = if R.1 ≠ 0 then R else wrsF R.2 g.at' [fsecB P 0]) := (show _ = _ from by rw [layF, ← hR])
  have HE : Hid (R.1 = 0 → R.2.C = []) := (show _ → _ from by rw [hR]; exact wrsF_empty _ _ _)
  obtain ⟨E, N⟩ := R
  have hinj : ∀ w', Turn F w.drew w' → Turn (fun k => F k ∨ k = gr) w w' := fun w' ht => ⟨ht.os, ht.tape, ht.output, ht.size, fun k hk hnk => ht.block k hk (fun hf => hnk (.inl hf))⟩
  have HI : Hid (∀ w', Turn F w.drew w' → Turn (fun k => F k ∨ k = gr) w w') := hinj
  clear h hrow hP hL hok hR hbe hnr hinj hbg hglt hbl hc0 hbF hgF hPl hlF
  rcases Decidable.em (cr = 1) with hcr | hcr
  · subst hcr
    obtain rfl : n = 1 := by omega
    have HW := HWA.out 0 rfl
    simp only [Nat.sub_self] at HW
    clear HWA
    go_enter Try.func38, Try.ntmps38
    by_cases h0 : E = 0
    · subst h0
      have HNC : Hid (N.C = []) := HE.out rfl
      clear HE
      go_upto_region 7 with (first | (go_at_call 24; refine Calls.mono hrm ?_; rintro e w1 ⟨rfl, rfl⟩) | (go_at_call 64; refine Calls.mono HW ?_; rintro e w5 ⟨rfl, hD5, hT5⟩; obtain ⟨c5d, hf5⟩ := HF.out w5.drew (hD5.below ((Below.refl _ _).drew)) hT5.drew HNC.out; have c5 : w5.cell? ⟨l, 1, none⟩ = some (.int .i64 (g.at' : Int)) := c5d; clear hD5 hT5 c5d))
      go_region_with (go_at_call 64; refine Calls.mono hf5 ?_; rintro e w6 ⟨rfl, hD6, hT6⟩)
      go_wp2
      go_ret
      rw [HLF.out]
      exact ⟨rfl, hD6, HI.out _ hT6⟩
    · have hb0 : (E != 0) = true := by rw [bne_iff_ne]; exact h0
      have HE2 : Hid (layF M g P _ = (E, N)) := (show _ = _ from by rw [HLF.out, if_pos h0])
      clear h0 HF
      go_wp2_with (first | (go_at_call 24; refine Calls.mono hrm ?_; rintro e w1 ⟨rfl, rfl⟩) | (go_at_call 64; refine Calls.mono HW ?_; rintro e w5 ⟨rfl, hD5, hT5⟩))
      go_ret
      rw [HE2.out]
      exact ⟨rfl, hD5, HI.out _ hT5⟩
  · have HW := HWA.out 1 (if_neg hcr).symm
    clear HWA
    go_enter Try.func38, Try.ntmps38
    by_cases h0 : E = 0
    · subst h0
      have HNC : Hid (N.C = []) := HE.out rfl
      have hcr1 : (1 : Int) ≤ (cr : Int) := by omega
      clear HE
      go_upto_region 7 with (first | (go_at_call 24; refine Calls.mono hrm ?_; rintro e w1 ⟨rfl, rfl⟩) | (go_at_call 64; refine Calls.mono HW ?_; rintro e w5 ⟨rfl, hD5, hT5⟩; obtain ⟨c5d, hf5⟩ := HF.out w5.drew (hD5.below ((Below.refl _ _).drew)) hT5.drew HNC.out; have c5 : w5.cell? ⟨l, 1, none⟩ = some (.int .i64 (g.at' : Int)) := c5d; clear hD5 hT5 c5d))
      go_region_with (go_at_call 64; refine Calls.mono hf5 ?_; rintro e w6 ⟨rfl, hD6, hT6⟩)
      go_wp2
      go_ret
      rw [HLF.out]
      exact ⟨rfl, hD6, HI.out _ hT6⟩
    · have hb0 : (E != 0) = true := by rw [bne_iff_ne]; exact h0
      have HE2 : Hid (layF M g P _ = (E, N)) := (show _ = _ from by rw [HLF.out, if_pos h0])
      clear h0 HF
      go_wp2_with (first | (go_at_call 24; refine Calls.mono hrm ?_; rintro e w1 ⟨rfl, rfl⟩) | (go_at_call 64; refine Calls.mono HW ?_; rintro e w5 ⟨rfl, hD5, hT5⟩))
      go_ret
      rw [HE2.out]
      exact ⟨rfl, hD5, HI.out _ hT5⟩
end Go.Proofs.Ytfibmkackckodaa
