/-
  Package blob's Drop, Free and holds by their contracts; how a Blobs lies in memory.
-/
import Derived.Test.YtpmjkgpmidejoaaRun15
import Derived.Test.YtpmjkgpmidejoaaRun16
import Derived.Test.YtpmjkgpmidejoaaRun13
namespace Go.Proofs.Ytpmjkgpmidejoaa
open Go.RowKit
open Al (Spc Kep turnB putB)

/-- A Blobs in memory: its device, its first sector, its space. -/
def Blb (w : World) (b d s fr : Nat) : Prop := w.heap[b]? = some (.cells #[.pointer (some ⟨d, 0, none⟩), .int .i64 (fr : Int), .pointer (some ⟨s, 0, none⟩)] 91 (0, 0))
theorem Blb.lt {w : World} {b d s fr : Nat} (h : Blb w b d s fr) : b < w.heap.size := (Array.getElem?_eq_some_iff.1 h).1
theorem Blb.c0 {w : World} {b d s fr : Nat} (h : Blb w b d s fr) : w.cell? ⟨b, 0, none⟩ = some (.pointer (some ⟨d, 0, none⟩)) := cell_blk h 0
theorem Blb.c1 {w : World} {b d s fr : Nat} (h : Blb w b d s fr) : w.cell? ⟨b, 1, none⟩ = some (.int .i64 (fr : Int)) := cell_blk h 1
theorem Blb.c2 {w : World} {b d s fr : Nat} (h : Blb w b d s fr) : w.cell? ⟨b, 2, none⟩ = some (.pointer (some ⟨s, 0, none⟩)) := cell_blk h 2
theorem Blb.kept {w w' : World} {b d s fr : Nat} (h : Blb w b d s fr) (hk : w'.heap[b]? = w.heap[b]?) : Blb w' b d s fr := hk.trans h
theorem Blb.below {w w' : World} {b d s fr : Nat} (h : Blb w b d s fr) (hk : Below w.heap.size w w') : Blb w' b d s fr := h.kept (hk.block _ h.lt)

set_option maxHeartbeats 2000000 in
set_option maxRecDepth 20000 in
theorem bfree_any (w : World) (b d s fr : Nat) (L : List Bool) (hb : Blb w b d s fr) (h : Spc w s L) :
    Calls Try.prog 25 #[.pointer (some ⟨b, 0, none⟩)] w fun e w' => e = .returned (.int .i64 ((L.count false : Nat) : Int)) ∧ Below w.heap.size w w' := by
  have hf := Al.free_any w s L h
  have c2 := hb.c2
  clear hb h
  go_enter Try.func25, Try.ntmps25
  go_wp2_with (go_at_call 58; refine Calls.mono hf ?_; rintro e w1 ⟨rfl, q1⟩)
  go_ret
  exact ⟨rfl, q1⟩

set_option maxHeartbeats 2000000 in
set_option maxRecDepth 20000 in
theorem drop_any (w : World) (b d s fr : Nat) (L : List Bool) (st sz : Int) (hb : Blb w b d s fr) (h : Spc w s L) (h1 : st ≤ 9223372036854775807) (h2 : sz ≤ 9223372036854775807) :
    Calls Try.prog 17 #[.pointer (some ⟨b, 0, none⟩), rv st sz] w fun e w' => e = .returned (.int .i64 (if giveR L st sz then 0 else 1)) ∧ Spc w' s (giveL L st sz) ∧ Kep (fun k => k ≠ s) w w' := by
  have hA : Below w.heap.size w (w.alloc (.cells #[.int .i64 st, .int .i64 sz] 40)) := (Below.refl _ w).alloc (Nat.le_refl _) _
  have c2 := (hb.below hA).c2
  have HG : Hid (Calls Try.prog 37 #[rv st sz, .func (.func 44) #[.pointer (some ⟨s, 0, none⟩)] #[]] (w.alloc (.cells #[.int .i64 st, .int .i64 sz] 40)).drew fun e w' => e = .returned (.int .i64 (if giveR L st sz then 0 else 1)) ∧ Spc w' s (giveL L st sz) ∧ Kep (fun k => k ≠ s) w w') := (turn_give (w.alloc (.cells #[.int .i64 st, .int .i64 sz] 40)).drew s L st sz ((h.below hA).kept rfl) h1 h2).mono fun e w' q => ⟨q.1, q.2.1, ((Kep.alloc _ _ _).trans (Kep.drew _ _)).trans q.2.2⟩
  obtain ⟨v, hv⟩ : ∃ v : Int, v = (if giveR L st sz then 0 else 1) := ⟨_, rfl⟩
  rw [← hv] at HG ⊢
  clear hv hb h hA
  go_enter Try.func17, Try.ntmps17
  go_wp2
  go_region_with (go_at_call 37; refine Calls.mono HG.out ?_; rintro e w1 ⟨rfl, q1⟩)
  all_goals
    (go_wp2
     go_ret
     exact ⟨rfl, q1⟩)

set_option maxHeartbeats 2000000 in
set_option maxRecDepth 20000 in
theorem holds_any (w : World) (b d s fr : Nat) (L : List Bool) (st sz : Int) (hb : Blb w b d s fr) (h : Spc w s L) (h1 : st ≤ 9223372036854775807) (h2 : sz ≤ 9223372036854775807) :
    Calls Try.prog 49 #[.pointer (some ⟨b, 0, none⟩), rv st sz] w fun e w' => e = .returned (.bool (giveR L st sz)) ∧ Below w.heap.size w w' := by
  have hA : Below w.heap.size w (w.alloc (.cells #[.int .i64 st, .int .i64 sz] 40)) := (Below.refl _ w).alloc (Nat.le_refl _) _
  have c2 := (hb.below hA).c2
  obtain ⟨B, hB⟩ : ∃ B, B = w.heap.size + 1 := ⟨_, rfl⟩
  have hsz : (w.alloc (.cells #[.int .i64 st, .int .i64 sz] 40)).drew.heap.size = B := by rw [hB]; simp
  have hBW : Below w.heap.size w (w.alloc (.cells #[.int .i64 st, .int .i64 sz] 40)).drew := hA.drew
  have c3 : (w.alloc (.cells #[.int .i64 st, .int .i64 sz] 40)).cell? ⟨w.heap.size, 0, none⟩ = some (.int .i64 st) := cell_blk (heap_alloc_new w _) 0
  have c4 : (w.alloc (.cells #[.int .i64 st, .int .i64 sz] 40)).cell? ⟨w.heap.size, 1, none⟩ = some (.int .i64 sz) := cell_blk (heap_alloc_new w _) 1
  have HC : Hid (Calls Try.prog 75 #[.pointer (some ⟨s, 0, none⟩)] (w.alloc (.cells #[.int .i64 st, .int .i64 sz] 40)).drew fun e w' => e = .returned (.pointer (some ⟨B, 0, none⟩)) ∧ Spc w' B L ∧ Below B (w.alloc (.cells #[.int .i64 st, .int .i64 sz] 40)).drew w') := by
    have := Al.copy_any (w.alloc (.cells #[.int .i64 st, .int .i64 sz] 40)).drew s L ((h.below hA).kept rfl)
    rw [hsz] at this
    exact this
  have HG : Hid (∀ w2, Spc w2 B L → Below B (w.alloc (.cells #[.int .i64 st, .int .i64 sz] 40)).drew w2 → Calls Try.prog 37 #[rv st sz, .func (.func 44) #[.pointer (some ⟨B, 0, none⟩)] #[]] w2 fun e w' => e = .returned (.int .i64 (if giveR L st sz then 0 else 1)) ∧ Below w.heap.size w w') := fun w2 q1 q2 => (turn_give w2 _ L st sz q1 h1 h2).mono fun e w' q => ⟨q.1, (hBW.trans (q2.mono (by omega))).trans ((q.2.2.mono (K' := fun k => k < w.heap.size) (fun k _ hk => by omega)).below (by have := q2.size; omega))⟩
  have HX : Hid (∀ w2, Below B (w.alloc (.cells #[.int .i64 st, .int .i64 sz] 40)).drew w2 → w2.cell? ⟨w.heap.size, 0, none⟩ = some (.int .i64 st) ∧ w2.cell? ⟨w.heap.size, 1, none⟩ = some (.int .i64 sz)) := fun w2 q => ⟨(q.cell (p := ⟨w.heap.size, 0, none⟩) (by show w.heap.size < B; omega)).trans c3, (q.cell (p := ⟨w.heap.size, 1, none⟩) (by show w.heap.size < B; omega)).trans c4⟩
  have HR : Hid (∀ v : Int, v = (if giveR L st sz then 0 else 1) → (v == 0) = giveR L st sz) := fun v hv => by rw [hv]; cases giveR L st sz <;> rfl
  obtain ⟨g, hg⟩ : ∃ g, g = giveR L st sz := ⟨_, rfl⟩
  obtain ⟨v, hv⟩ : ∃ v : Int, v = (if giveR L st sz then 0 else 1) := ⟨_, rfl⟩
  have hvg := HR.out v hv
  rw [← hv] at HG
  rw [← hg] at hvg ⊢
  have HBB : Hid (B = w.heap.size + 1) := hB
  clear hg hb h hA hBW HR hv hsz c3 c4 hB
  go_enter Try.func49, Try.ntmps49
  go_wp2
  go_region_with (first
    | (go_at_call 75; refine Calls.mono HC.out ?_; rintro e w2 ⟨rfl, q1, q2⟩; obtain ⟨d1, d2⟩ := HX.out w2 q2)
    | (go_at_call 37; refine Calls.mono (HG.out w2 q1 q2) ?_; rintro e w3 ⟨rfl, q3⟩))
  all_goals
    (go_wp2
     go_ret
     exact ⟨rfl, q3⟩)
end Go.Proofs.Ytpmjkgpmidejoaa
/-
  Package blob's Write by its contract.
-/
namespace Go.Proofs.Ytpmjkgpmidejoaa
open Go.RowKit
open Al (Spc Kep takeF putB allB turnB)

/-- A Blobs, its device and its space. -/
structure St (w : World) (b d s fr : Nat) (F : Nat → Prop) (M : D) (L : List Bool) : Prop where
  blb : Blb w b d s fr
  dev : Dev w F d M
  sp : Spc w s L
  nb : ¬ F b
  ns : ¬ F s
  bs : b ≠ s
theorem Kep.turn {K F : Nat → Prop} {w w' : World} (h : Kep K w w') (hF : ∀ k, k < w.heap.size → ¬ F k → K k) : Turn F w w' := ⟨h.os, h.tape, h.output, h.size, fun k hk hn => h.keep k hk (hF k hk hn)⟩
theorem St.below {w w' : World} {b d s fr : Nat} {F : Nat → Prop} {M : D} {L : List Bool} (h : St w b d s fr F M L) (hb : Below w.heap.size w w') : St w' b d s fr F M L := ⟨h.blb.below hb, h.dev.below hb, h.sp.below hb, h.nb, h.ns, h.bs⟩

theorem results_ref {fn : Func} {p q : Tmp} (h : fn.results = #[.cell p 40, .tmp q]) (tmps : Array Value) (w : World) (g : Nat) (st sz : Int) (u : Value) (hp : tmps.getD p undef = .pointer (some ⟨g, 0, none⟩)) (hq : tmps.getD q undef = u) (c0 : w.cell? ⟨g, 0, none⟩ = some (.int .i64 st)) (c1 : w.cell? ⟨g, 1, none⟩ = some (.int .i64 sz)) : (results fn tmps).run Try.prog w = .ok (.tuple #[rv st sz, u]) w := by
  have hp' : tmps[p]?.getD undef = .pointer (some ⟨g, 0, none⟩) := by simpa using hp
  have hq' : tmps[q]?.getD undef = u := by simpa using hq
  simp [results, h, hp', hq', asAddr, loadVar, go_sem, c0, c1]

/-- In the midst of Write: the cell of the answer is made. -/
structure Mid (w : World) (b d s fr : Nat) (F : Nat → Prop) (M : D) (L : List Bool) (w3 : World) : Prop where
  dev : ∃ G, Dev w3 G d M ∧ ∀ k, G k → F k ∨ w.heap.size < k
  blb : Blb w3 b d s fr
  sp : Spc w3 s L
  box : w3.heap[w.heap.size]? = some (.cells #[.int .i64 0, .int .i64 0] 40 (0, 0))
  trn : Turn (fun k => F k ∨ k = s) w w3
theorem Mid.fin {w : World} {b d s fr : Nat} {F : Nat → Prop} {M0 M : D} {L0 L : List Bool} {w3 w4 : World} (h : Mid w b d s fr F M L w3) (h0 : St w b d s fr F M0 L0) (hk : Kep (fun k => k ≠ w.heap.size) w3 w4) : St w4 b d s fr (Grow F w w4) M L ∧ Turn (fun k => F k ∨ k = s) w w4 := by
  obtain ⟨G, hG, hGF⟩ := h.dev
  have hbl := h0.blb.lt
  have hsl := h0.sp.lt
  have hz := h.trn.size
  have hz4 := hk.size
  have hd4 : Dev w4 G d M := hG.other (G := fun k => k = w.heap.size) (Kep.turn hk fun k _ hn => hn) (fun k hk2 e => by
    rcases hGF k hk2 with h2 | h2
    · have := h0.dev.2.1 k h2; omega
    · omega)
  refine ⟨⟨h.blb.kept (hk.keep b h.blb.lt (by omega)), hd4.wider (fun k hk2 => (hGF k hk2).imp id fun h2 => ⟨by omega, hd4.2.1 k hk2⟩) (fun k hk2 => hk2.elim (fun h2 => by have := h0.dev.2.1 k h2; omega) fun h2 => h2.2), h.sp.kept (hk.keep s h.sp.lt (by omega)), fun h2 => h2.elim h0.nb (fun h3 => by omega), fun h2 => h2.elim h0.ns (fun h3 => by omega), h0.bs⟩, ⟨hk.os.trans h.trn.os, hk.tape.trans h.trn.tape, hk.output.trans h.trn.output, by omega, fun k h2 hn => (hk.keep k (by omega) (by omega)).trans (h.trn.block k h2 hn)⟩⟩
theorem Mid.give {w : World} {b d s fr : Nat} {F : Nat → Prop} {M0 M : D} {L0 L L' : List Bool} {w3 w4 : World} (h : Mid w b d s fr F M L w3) (h0 : St w b d s fr F M0 L0) (hk : Kep (fun k => k ≠ s) w3 w4) (hs : Spc w4 s L') : Mid w b d s fr F M L' w4 := by
  obtain ⟨G, hG, hGF⟩ := h.dev
  have hbl := h0.blb.lt
  have hsl := h0.sp.lt
  have hz := h.trn.size
  have hz4 := hk.size
  have hbs := h0.bs
  refine ⟨⟨G, hG.other (G := fun k => k = s) (Kep.turn hk fun k _ hn => hn) (fun k hk2 e => ?_), hGF⟩, h.blb.kept (hk.keep b h.blb.lt hbs), hs, (hk.keep w.heap.size (Array.getElem?_eq_some_iff.1 h.box).1 (by omega)).trans h.box, ⟨hk.os.trans h.trn.os, hk.tape.trans h.trn.tape, hk.output.trans h.trn.output, by omega, fun k h2 hn => (hk.keep k (by omega) (fun e => hn (.inr e))).trans (h.trn.block k h2 hn)⟩⟩
  rcases hGF k hk2 with h2 | h2
  · exact h0.ns (e ▸ h2)
  · omega
theorem Mid.c0 {w : World} {b d s fr : Nat} {F : Nat → Prop} {M : D} {L : List Bool} {w3 : World} (h : Mid w b d s fr F M L w3) : w3.cell? ⟨w.heap.size, 0, none⟩ = some (.int .i64 0) ∧ w3.cell? ⟨w.heap.size, 1, none⟩ = some (.int .i64 0) ∧ w3.frozen? ⟨w.heap.size, 0, none⟩ = false ∧ w3.frozen? ⟨w.heap.size, 1, none⟩ = false := ⟨cell_blk h.box 0, cell_blk h.box 1, frozen_blk h.box 0, frozen_blk h.box 1⟩
theorem two_kep {w3 : World} {r : Nat} (u v : Value) : Kep (fun k => k ≠ r) w3 ((w3.setCell ⟨r, 0, none⟩ u).setCell ⟨r, 1, none⟩ v) := (Kep.set w3 _ (fun h => h rfl)).trans (Kep.set _ _ (fun h => h rfl))
theorem two_cells {w3 : World} {r : Nat} {c0 c1 : Value} (h : w3.heap[r]? = some (.cells #[c0, c1] 40 (0, 0))) (u v : Value) : ((w3.setCell ⟨r, 0, none⟩ u).setCell ⟨r, 1, none⟩ v).cell? ⟨r, 0, none⟩ = some u ∧ ((w3.setCell ⟨r, 0, none⟩ u).setCell ⟨r, 1, none⟩ v).cell? ⟨r, 1, none⟩ = some v := by
  have h2 := set_blk (set_blk h 0 u) 1 v
  exact ⟨by rw [cell_blk h2]; rfl, by rw [cell_blk h2]; rfl⟩

set_option maxHeartbeats 4000000 in
set_option maxRecDepth 100000 in
theorem bwrite_any (w : World) (b d s fr : Nat) (F : Nat → Prop) (M : D) (L : List Bool) (h : St w b d s fr F M L) (a : Option Addr) (l : List UInt8) (cap : Nat) (hb : Bytes w a l) (hab : l ≠ [] → ∀ ad, a = some ad → ¬ F ad.block ∧ ad.block ≠ s) (hcap : l.length ≤ cap) (hlm : l.length ≤ 9223372036854775807) (hC : M.C.length ≤ 80000) (hfr : fr ≤ 4096) :
    Calls Try.prog 13 #[.pointer (some ⟨b, 0, none⟩), .slice a l.length cap] w fun e w' => e = .returned (.tuple #[rv (wrF M L fr l).1 (wrF M L fr l).2.1, .int .i64 (wrF M L fr l).2.2.1]) ∧ St w' b d s fr (Grow F w w') (wrF M L fr l).2.2.2.1 (wrF M L fr l).2.2.2.2 ∧ Turn (fun k => F k ∨ k = s) w w' := by
  have hA : Below w.heap.size w (w.alloc (.cells #[.int .i64 0, .int .i64 0] 40)) := (Below.refl _ w).alloc (Nat.le_refl _) _
  have hM0 : Mid w b d s fr F M L (w.alloc (.cells #[.int .i64 0, .int .i64 0] 40)) := ⟨⟨F, h.dev.below hA, fun k hk => .inl hk⟩, h.blb.below hA, h.sp.below hA, heap_alloc_new w _, Turn.of_below hA⟩
  have HST : Hid (St w b d s fr F M L) := h
  by_cases h0 : l.length = 0
  · have e : wrF M L fr l = (0, 0, 0, M, L) := by rw [wrF, if_pos h0]
    rw [e, h0]
    have HM : Hid (Mid w b d s fr F M L (w.alloc (.cells #[.int .i64 0, .int .i64 0] 40))) := hM0
    clear h hb hab e hM0 hA
    go_enter Try.func13, Try.ntmps13
    go_wp2
    refine bodyPost_ret (results_ref rfl _ _ w.heap.size 0 0 (.int .i64 0) rfl rfl HM.out.c0.1 HM.out.c0.2.1) rfl ?_
    exact ⟨rfl, HM.out.fin HST.out (Kep.refl _ _)⟩
  · have hne : l ≠ [] := by intro e; rw [e] at h0; exact h0 rfl
    obtain ⟨bb, off, rfl, hbl, _⟩ : ∃ bb off, a = some ⟨bb, off, none⟩ ∧ bb < w.heap.size ∧ True := by
      rcases hb with h1 | ⟨b', off', e, h1, _⟩
      · exact absurd h1 hne
      · exact ⟨b', off', e, h1, trivial⟩
    obtain ⟨hbF, hbS⟩ := hab hne _ rfl
    obtain ⟨K, hK⟩ : ∃ K, K = nsec l.length := ⟨_, rfl⟩
    have hK1 : 1 ≤ K := by rw [hK]; exact nsec_pos h0
    have hsec := fun w => sectors_any (l.length : Int) w (by omega)
    rw [secI_nat, ← hK] at hsec
    have htk := Al.take_any (w.alloc (.cells #[.int .i64 0, .int .i64 0] 40)) s L (K : Int) hM0.sp
    obtain ⟨n, hn⟩ : ∃ n, n = l.length := ⟨_, rfl⟩
    have hn0 : ¬ (n : Int) = 0 := by omega
    rw [← hn] at hsec
    rcases take_cases L K hK1 with ⟨t1, t2, t3⟩ | ⟨X, t1, t2, t3⟩
    · have e : wrF M L fr l = (0, 0, 60, M, L) := by rw [wrF, if_neg h0, ← hK, t1, if_pos (by decide)]
      rw [e, ← hn]
      rw [t1, t2] at htk
      have HX : Hid (∀ w1, Spc w1 s L → Kep (fun q => q ≠ s) (w.alloc (.cells #[.int .i64 0, .int .i64 0] 40)) w1 → Mid w b d s fr F M L w1) := fun w1 q1 q2 => hM0.give HST.out q2 q1
      have c2 := hM0.blb.c2
      obtain ⟨x, hx⟩ : ∃ x, x = (takeF L (K : Int)).1 := ⟨_, rfl⟩
      rw [← hx] at htk
      clear h hb hab e hM0 hA hx t1 t2 t3 hne hbF hbS hbl hn h0 hK hcap
      go_enter Try.func13, Try.ntmps13
      go_wp2_with (first
        | (go_at_call 28; refine Calls.mono (hsec _) ?_; rintro e w1 ⟨rfl, rfl⟩)
        | (go_at_call 41; refine Calls.mono htk ?_; rintro e w1 ⟨rfl, q1, q2⟩; have HM : Hid (Mid w b d s fr F M L w1) := HX.out w1 q1 q2; obtain ⟨k0, k1, k2, k3⟩ := HM.out.c0; clear q1 q2))
      obtain ⟨k4, k5⟩ := two_cells HM.out.box (.int .i64 0) (.int .i64 0)
      refine bodyPost_ret (results_ref rfl _ _ w.heap.size 0 0 (.int .i64 60) rfl rfl k4 k5) rfl ?_
      exact ⟨rfl, HM.out.fin HST.out (two_kep _ _)⟩
    · obtain ⟨R, hR⟩ : ∃ R, R = wrsF M (fr + X) (unitsL l) := ⟨_, rfl⟩
      have e : wrF M L fr l = if R.1 ≠ 0 then (0, 0, R.1, R.2, L) else ((X : Int), (l.length : Int), 0, R.2, putB L X K true) := by
        rw [wrF, if_neg h0, ← hK, t1, if_neg (by simp), Int.toNat_natCast, ← hR]
      have hXK := t2.1
      have hsl := h.sp.len
      rw [t1] at htk
      have HX : Hid (∀ w1, Spc w1 s (putB L X K true) → Kep (fun q => q ≠ s) (w.alloc (.cells #[.int .i64 0, .int .i64 0] 40)) w1 → Mid w b d s fr F M (putB L X K true) w1 ∧ Dev w1 F d M ∧ Bytes w1 (some ⟨bb, off, none⟩) l) := (by
        intro w1 q1 q2
        have ht : Turn (fun k => k = s) w w1 := ((Turn.of_below hA).trans' (Kep.turn q2 fun k _ hn => hn))
        exact ⟨hM0.give HST.out q2 q1, h.dev.other ht (fun k hk e2 => h.ns (e2 ▸ hk)), hb.turn ht (fun ad e2 => by simp only [Option.some.injEq] at e2; subst e2; exact hbS)⟩)
      have c2 := hM0.blb.c2
      have HSW : Hid (∀ w1, Mid w b d s fr F M (putB L X K true) w1 → Dev w1 F d M → Bytes w1 (some ⟨bb, off, none⟩) l → Calls Try.prog 43 #[.slice (some ⟨bb, off, none⟩) n cap] w1.drew fun e w2 => ∃ va vn vc, e = .returned (.slice va vn vc) ∧ w2.cell? ⟨b, 0, none⟩ = some (.pointer (some ⟨d, 0, none⟩)) ∧ w2.cell? ⟨b, 1, none⟩ = some (.int .i64 (fr : Int)) ∧
          Hid (Calls Try.prog 42 #[.pointer (some ⟨d, 0, none⟩), .int .i64 ((fr : Int) + (X : Int)), .slice va vn vc] w2 fun e w3 => e = .returned (.int .i64 R.1) ∧ w3.cell? ⟨b, 0, none⟩ = some (.pointer (some ⟨d, 0, none⟩)) ∧ w3.cell? ⟨b, 1, none⟩ = some (.int .i64 (fr : Int)) ∧ Hid (Mid w b d s fr F R.2 (putB L X K true) w3))) := (by
        intro w1 m1 d1 b1
        have hsa := sealAll_any w1.drew bb off cap l (by omega) (by unfold nsec at hK; omega) hcap b1
        rw [← hn] at hsa
        refine hsa.mono ?_
        rintro e2 w2 ⟨v, rfl, ho2, hb2⟩
        obtain ⟨va, vc, rfl, hby2, hno2, hlc2, hob2⟩ := ho2.open
        have hb12 : Below w1.heap.size w1 w2 := (Below.refl _ w1).drew.trans hb2
        have hbl2 := m1.blb.below hb12
        refine ⟨va, _, vc, rfl, hbl2.c0, hbl2.c1, ?_⟩
        have hz1 := m1.trn.size
        have hse : sect (sealsL l (nsec n)).length = K := by rw [sealsL_length, hn, ← hK]; unfold sect; omega
        have hsw := swrite_any d (fr + X) va (sealsL l (nsec n)) vc w2 F M (d1.below hb12) hby2 (by
          intro _ ad hva hF
          have h5 := h.dev.2.1 _ hF
          rcases hby2 with h6 | ⟨b6, o6, e6, h7, _⟩
          · have := sealsL_length l (nsec n); rw [h6, hn, ← hK] at this; simp at this; omega
          · rw [hva] at e6
            simp only [Option.some.injEq] at e6
            subst e6
            have h8 := (hob2 b6 (by rw [hva]; simp [Value.ownBlock])).1
            have h9 : w1.heap.size ≤ b6 := h8
            simp at h5
            omega) hlc2 (by rw [hse]; omega) (by omega)
        rw [show psecs (sealsL l (nsec n)) = unitsL l from by rw [hn]; exact psecs_units l, ← hR] at hsw
        rw [show ((fr + X : Nat) : Int) = (fr : Int) + (X : Int) from by omega] at hsw
        refine hsw.mono ?_
        rintro e3 w3 ⟨rfl, hd3, ht3⟩
        have hbw : b < w2.heap.size := hbl2.lt
        have hbl3 : Blb w3 b d s fr := hbl2.kept (ht3.block b hbw h.nb)
        have hs2 : Spc w2 s (putB L X K true) := m1.sp.below hb12
        have hr2 : w2.heap[w.heap.size]? = some (.cells #[.int .i64 0, .int .i64 0] 40 (0, 0)) := (hb12.block _ (Array.getElem?_eq_some_iff.1 m1.box).1).trans m1.box
        have hrl := (Array.getElem?_eq_some_iff.1 m1.box).1
        have hz2 := hb12.size
        have hz3 := ht3.size
        refine ⟨rfl, hbl3.c0, hbl3.c1, ⟨⟨Grow F w2 w3, hd3, fun k hk => hk.imp id fun h9 => by omega⟩, hbl3, hs2.kept (ht3.block s hs2.lt h.ns), (ht3.block _ (by omega) (fun hF => by have := h.dev.2.1 _ hF; omega)).trans hr2, ?_⟩⟩
        exact ⟨ht3.os.trans (hb12.os.trans m1.trn.os), ht3.tape.trans (hb12.tape.trans m1.trn.tape), ht3.output.trans (hb12.output.trans m1.trn.output), by omega, fun k hk hn2 => ((ht3.block k (by omega) (fun hF => hn2 (.inl hF))).trans (hb12.block k (by omega))).trans (m1.trn.block k hk hn2)⟩)
      have HGV : Hid (∀ w3, Mid w b d s fr F R.2 (putB L X K true) w3 → Calls Try.prog 44 #[.pointer (some ⟨s, 0, none⟩), .int .i64 (X : Int), .int .i64 (K : Int)] w3 fun e w4 => (∃ v : Int, e = .returned (.int .i64 v)) ∧ Hid (Mid w b d s fr F R.2 L w4)) := (by
        intro w3 m3
        obtain ⟨g1, g2⟩ := give_back hK1 t2
        refine (Al.give_any w3 s _ (X : Int) (K : Int) m3.sp (by omega)).mono ?_
        rintro e4 w4 ⟨rfl, q1, q2, _⟩
        rw [g1, if_pos rfl, Int.toNat_natCast, Int.toNat_natCast, g2] at q1
        exact ⟨⟨_, rfl⟩, m3.give HST.out q2 q1⟩)
      rw [e, ← hn]
      obtain ⟨R1, R2⟩ := R
      have hXb : X ≤ 4096 := by omega
      have hfX : IntKind.i64.wrap ((fr : Int) + (X : Int)) = (fr : Int) + (X : Int) := by rw [IntKind.wrap_i64]; omega
      dsimp only at HSW HGV ⊢
      clear h hb hab e hM0 hA t1 t2 t3 hne hbF hbS hbl hn h0 hK hcap hR hXK hsl hlm hC
      by_cases h1 : R1 = 0
      · subst h1
        rw [if_neg (by simp)]
        go_enter Try.func13, Try.ntmps13
        go_wp2_with (first
          | (go_at_call 28; refine Calls.mono (hsec _) ?_; rintro e w1 ⟨rfl, rfl⟩)
          | (go_at_call 41; refine Calls.mono htk ?_; rintro e w1 ⟨rfl, q1, q2⟩; obtain ⟨m1, m2, m3⟩ := HX.out w1 q1 q2; have hsw := HSW.out w1 m1 m2 m3; have k0 := m1.blb.c0; have k1 := m1.blb.c1; clear q1 q2 m1 m2 m3))
        clear htk hsec
        go_region_held3 (fun w' => w'.cell? ⟨b, 0, none⟩ = some (.pointer (some ⟨d, 0, none⟩)) ∧ w'.cell? ⟨b, 1, none⟩ = some (.int .i64 (fr : Int))) (go_keep)
          (first
            | (go_at_call 43; (with_reducible refine Calls.mono hsw ?_); rintro e w2 ⟨va, vn, vc, rfl, s0, s1, HW⟩)
            | (go_at_call 42; (with_reducible refine Calls.mono HW.out ?_); rintro e w3 ⟨rfl, s2, s3, HM⟩))
        obtain ⟨k5, k6, k7, k8⟩ := HM.out.c0
        clear hsw k0 k1 s0 s1 s2 s3 HW c2
        go_wp2
        obtain ⟨k9, k10⟩ := two_cells HM.out.box (.int .i64 (X : Int)) (.int .i64 (n : Int))
        refine bodyPost_ret (results_ref rfl _ _ w.heap.size (X : Int) (n : Int) (.int .i64 0) rfl rfl k9 k10) rfl ?_
        exact ⟨rfl, HM.out.fin HST.out (two_kep _ _)⟩
      · have hb0 : (R1 != 0) = true := by rw [bne_iff_ne]; exact h1
        rw [if_pos h1]
        clear h1
        go_enter Try.func13, Try.ntmps13
        go_wp2_with (first
          | (go_at_call 28; refine Calls.mono (hsec _) ?_; rintro e w1 ⟨rfl, rfl⟩)
          | (go_at_call 41; refine Calls.mono htk ?_; rintro e w1 ⟨rfl, q1, q2⟩; obtain ⟨m1, m2, m3⟩ := HX.out w1 q1 q2; have hsw := HSW.out w1 m1 m2 m3; have k0 := m1.blb.c0; have k1 := m1.blb.c1; clear q1 q2 m1 m2 m3))
        clear htk hsec
        go_region_held3 (fun w' => w'.cell? ⟨b, 0, none⟩ = some (.pointer (some ⟨d, 0, none⟩)) ∧ w'.cell? ⟨b, 1, none⟩ = some (.int .i64 (fr : Int))) (go_keep)
          (first
            | (go_at_call 43; (with_reducible refine Calls.mono hsw ?_); rintro e w2 ⟨va, vn, vc, rfl, s0, s1, HW⟩)
            | (go_at_call 42; (with_reducible refine Calls.mono HW.out ?_); rintro e w3 ⟨rfl, s2, s3, HM⟩))
        have k4 := HM.out.blb.c2
        have hgv := HGV.out w3 HM.out
        clear hsw k0 k1 s0 s1 s2 s3 HW c2 HM
        go_wp2_with (go_at_call 44; refine Calls.mono hgv ?_; rintro e w4 ⟨⟨v4, rfl⟩, HM⟩; obtain ⟨k5, k6, k7, k8⟩ := HM.out.c0)
        obtain ⟨k9, k10⟩ := two_cells HM.out.box (.int .i64 0) (.int .i64 0)
        refine bodyPost_ret (results_ref rfl _ _ w.heap.size 0 0 (.int .i64 R1) rfl rfl k9 k10) rfl ?_
        exact ⟨rfl, HM.out.fin HST.out (two_kep _ _)⟩
end Go.Proofs.Ytpmjkgpmidejoaa
