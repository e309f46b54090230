/-
  Bytes laid on sectors and made to last: sectors.Write by its contract.
-/
import Derived.Test.YtpmjkgpmidejoaaRun07
import Derived.Test.YtpmjkgpmidejoaaRun08
import Derived.Test.YtpmjkgpmidejoaaRun01
namespace Go.Proofs.Ytpmjkgpmidejoaa
open Go.RowKit

theorem slice_lo (b off n c k : Nat) (h1 : k ≤ n) (h3 : k < c) (wx : World) : (Instr.slice 38 (.slice (some ⟨b, off, none⟩) n c) (some (.int .i64 (k : Int))) none none).run Try.prog wx = .ok (.slice (some ⟨b, off + k, none⟩) (n - k) (c - k)) wx := by
  obtain ⟨i0, hi, hz0, hz1, hz2⟩ := info_parts info5
  simp [Instr.slice, run_underlying Try.underlying38, Instr.sliceBounds, run_sliceBound, sizeOf, typeInfo, hi, hz1, (by omega : (k : Int) ≤ (n : Int)), Addr.add]
  rw [if_neg (by omega)]
  split
  · rename_i h; subst h; rfl
  · rfl
theorem slice_hi (a : Option Addr) (n c k : Nat) (h1 : k ≤ c) (wx : World) : (Instr.slice 38 (.slice a n c) none (some (.int .i64 (k : Int))) none).run Try.prog wx = .ok (.slice a k c) wx := by
  obtain ⟨i0, hi, hz0, hz1, hz2⟩ := info_parts info5
  cases a with
  | none =>
    simp [Instr.slice, run_underlying Try.underlying38, Instr.sliceBounds, run_sliceBound, sizeOf, typeInfo, hi, (by omega : (k : Int) ≤ (c : Int)), Addr.add]
  | some ad =>
    simp [Instr.slice, run_underlying Try.underlying38, Instr.sliceBounds, run_sliceBound, sizeOf, typeInfo, hi, (by omega : (k : Int) ≤ (c : Int)), Addr.add]

/-- Writes one behind the other, up to the first that fails. -/
def wrs (M : D) (p : Nat) : List ByteArray → Int × D
  | [] => (0, M)
  | b :: r => if (M.wr (p : Int) b).1 ≠ 0 then M.wr (p : Int) b else wrs (M.wr (p : Int) b).2 (p + 1) r
def wrsF (M : D) (p : Nat) (xs : List ByteArray) : Int × D := if (wrs M p xs).1 ≠ 0 then wrs M p xs else (wrs M p xs).2.flush

theorem wr_cap (M : D) (i : Int) (b : ByteArray) : (M.wr i b).2.C.length ≤ M.C.length + 1 := by
  unfold D.wr
  split
  · exact Nat.le_succ _
  · split
    · rw [M.burn_L.2.2]; omega
    · show (M.C ++ [(i.toNat, b)]).length ≤ _; simp

theorem Dev.regrow {w w1 w2 : World} {F : Nat → Prop} {d : Nat} {M : D} (h : Dev w2 (Grow (Grow F w w1) w1 w2) d M) (h1 : w.heap.size ≤ w1.heap.size) (h2 : w1.heap.size ≤ w2.heap.size) : Dev w2 (Grow F w w2) d M := by
  obtain ⟨q1, q2, lv, sv, cv, q3, q4⟩ := h
  refine ⟨q1, ?_, lv, sv, cv, q3, fun k hk => Grow.trans h1 h2 (q4 k hk)⟩
  intro k hk
  rcases hk with hk | hk
  · exact q2 k (.inl (.inl hk))
  · exact hk.2

/-- A sector of a frame, and all of them. -/
def fsec (P : List UInt8) (j : Nat) : List UInt8 := (P.drop (256 * j)).take 256
def fsecB (P : List UInt8) (j : Nat) : ByteArray := ⟨(fsec P j).toArray⟩
def fsecs (P : List UInt8) (n : Nat) : List ByteArray := (List.range n).map (fsecB P)
def zsec : ByteArray := ⟨(List.replicate 256 (0 : UInt8)).toArray⟩
theorem fsec_length {P : List UInt8} {n j : Nat} (hP : P.length = 256 * n) (hj : j < n) : (fsec P j).length = 256 := by
  rw [fsec, List.length_take, List.length_drop, hP]; omega
theorem fsec_bytes {w : World} {b : Nat} {P : List UInt8} (h : Bytes w (some ⟨b, 0, none⟩) P) (j : Nat) : Bytes w (some ⟨b, 256 * j, none⟩) (fsec P j) := by
  have := (h.drop (256 * j)).take 256
  rwa [Nat.zero_add] at this

theorem flush_burn (M : D) (h : M.flush.1 = 0) : M.flush.2.C = [] := by
  unfold D.flush at h ⊢
  split
  · rename_i h1; rw [if_pos h1] at h; exact absurd h h1
  · rfl
theorem wrsF_empty (M : D) (p : Nat) (xs : List ByteArray) (h : (wrsF M p xs).1 = 0) : (wrsF M p xs).2.C = [] := by
  unfold wrsF at h ⊢
  split
  · rename_i h1; rw [if_pos h1] at h; exact absurd h h1
  · rename_i h1; rw [if_neg h1] at h; exact flush_burn _ h

theorem Dev.wider {w : World} {F G : Nat → Prop} {d : Nat} {M : D} (h : Dev w F d M) (hFG : ∀ k, F k → G k) (hG : ∀ k, G k → k < w.heap.size) : Dev w G d M := by
  obtain ⟨q1, _, lv, sv, cv, q3, q4⟩ := h
  exact ⟨q1, hG, lv, sv, cv, q3, fun k hk => hFG k (q4 k hk)⟩
theorem Dev.lts {w : World} {F : Nat → Prop} {d : Nat} {M : D} (h : Dev w F d M) : ∀ k, F k → k < w.heap.size := h.2.1

theorem size5 : (Try.prog.info? 5).map (·.size) = some 1 := by kernel_rfl

theorem bytes_row {w : World} {g : Nat} {l : List UInt8} (h : w.heap[g]? = some (.cells (bcs l).toArray 5 (0, 0))) : Bytes w (some ⟨g, 0, none⟩) l := by
  refine .inr ⟨g, 0, rfl, (Array.getElem?_eq_some_iff.1 h).1, fun j hj => ?_⟩
  rw [Nat.zero_add, cell_blk h j, List.getElem?_toArray, bcs_get hj]
theorem Own.addr {w : World} {base : Nat} {v : Value} {l : List UInt8} (h : Own w base v l) (hl : 0 < l.length) : ∃ g cap, v = .slice (some ⟨g, 0, none⟩) l.length cap ∧ l.length ≤ cap ∧ base ≤ g ∧ g < w.heap.size := owns_head h hl

/-- Noughts behind the bytes, up to the last sector's end. -/
def padTo (b : List UInt8) : List UInt8 := b ++ List.replicate (256 * sect b.length - b.length) 0
def psecs (b : List UInt8) : List ByteArray := fsecs (padTo b) (sect b.length)
theorem padTo_length (b : List UInt8) : (padTo b).length = 256 * sect b.length := by
  rw [padTo, List.length_append, List.length_replicate]
  have := sect_le b.length
  omega
theorem psecs_length (b : List UInt8) : (psecs b).length = sect b.length := by simp [psecs, fsecs]
theorem padTo_fsec {b : List UInt8} {k : Nat} (hk : 256 * k < b.length) : fsec (padTo b) k = (b.drop (256 * k)).take 256 ++ List.replicate (256 - ((b.drop (256 * k)).take 256).length) 0 := by
  rw [fsec, padTo, List.drop_append_of_le_length (by omega), List.take_append, List.take_replicate]
  congr 2
  simp only [List.length_drop, List.length_take]
  unfold sect
  omega

/-- Bytes copied to the head of a row of noughts. -/
theorem copy_part (w : World) (ty : TypeId) (g N sLen sCap : Nat) (a : Addr) (m : List UInt8) (hg : w.heap[g]? = some (.cells (bcs (List.replicate N 0)).toArray 5 (0, 0))) (hm : m.length = min sLen N) (hsrc : ∀ j u, (bcs m)[j]? = some u → w.cell? (a.add j) = some u) :
    ∃ w', (Builtin.copy_ #[38, 38] ty #[.slice (some ⟨g, 0, none⟩) N N, .slice (some a) sLen sCap]).run Try.prog w = .ok (goInt m.length) w' ∧ w'.heap[g]? = some (.cells (bcs (m ++ List.replicate (N - m.length) 0)).toArray 5 (0, 0)) ∧ w.grownBy w' (some g) := by
  have hl : (bcs m).length = m.length := bcs_length m
  have hrun := run_copy_row (P := Try.prog) w 38 38 ty 5 g 0 N N a sLen sCap (bcs (List.replicate N 0)).toArray 5 (bcs m) Try.underlying38 size5 hg (by rw [hl, hm]) hsrc (by simp [bcs]; omega) (bcs_one _)
  rw [hl] at hrun
  refine ⟨_, hrun, ?_, ⟨rfl, rfl, rfl, by simp, fun k hk hne => setRow_other w g k _ (by intro e; subst e; exact hne rfl)⟩⟩
  rw [setRow_heap w g _ _ 5 _ hg]
  have e : (bcs (List.replicate N 0)).toArray.toList.take 0 ++ bcs m ++ (bcs (List.replicate N 0)).toArray.toList.drop (0 + m.length) = bcs (m ++ List.replicate (N - m.length) 0) := by
    simp [bcs, List.drop_replicate]
  exact congrArg (fun x => some (Obj.cells (List.toArray x) 5 (0, 0))) e
theorem Bytes.cells {w : World} {b off : Nat} {l : List UInt8} (h : Bytes w (some ⟨b, off, none⟩) l) : ∀ j u, (bcs l)[j]? = some u → w.cell? ((⟨b, off, none⟩ : Addr).add j) = some u := by
  intro j u hu
  have hj : j < l.length := by
    rw [← bcs_length]
    exact (List.getElem?_eq_some_iff.1 hu).1
  rw [bcs_get hj] at hu
  rcases h with h0 | ⟨b', off', e, _, hc⟩
  · rw [h0] at hj; simp at hj
  · simp only [Option.some.injEq, Addr.mk.injEq, and_true] at e
    obtain ⟨rfl, rfl⟩ := e
    rw [Addr.add_lit, hc j hj]
    exact hu

set_option maxHeartbeats 4000000 in
set_option maxRecDepth 100000 in
theorem swrite_any (d p : Nat) (a : Option Addr) (b : List UInt8) (cap : Nat) (w : World) (F : Nat → Prop) (M : D) (h : Dev w F d M) (hb : Bytes w a b) (hab : b ≠ [] → ∀ ad, a = some ad → ¬ F ad.block) (hcap : b.length ≤ cap) (hC : M.C.length + sect b.length ≤ 100000) (hp : p ≤ 100000) :
    Calls Try.prog 42 #[.pointer (some ⟨d, 0, none⟩), .int .i64 (p : Int), .slice a b.length cap] w fun e w' => e = .returned (.int .i64 (wrsF M p (psecs b)).1) ∧ Dev w' (Grow F w w') d (wrsF M p (psecs b)).2 ∧ Turn F w w' := by
  obtain ⟨i0, hi, hz0, hz1, hz2⟩ := info_parts info5
  have hm : i0.bytes * 256 ≤ 281474976710656 := by rw [hz2]; omega
  obtain ⟨n, hn⟩ : ∃ n, n = sect b.length := ⟨_, rfl⟩
  have hse := count_any b.length w (by unfold sect at hn hC; omega)
  rw [← hn] at hse hC
  have HB : Hid (Bytes w a b ∧ (b ≠ [] → ∀ ad, a = some ad → ¬ F ad.block)) := ⟨hb, hab⟩
  have HD : Hid (Dev w (Grow F w w) d M) := (show Dev w (Grow F w w) d M from h.grow)
  have HFL : Hid (∀ k, F k → k < w.heap.size) := h.2.1
  have hln : 256 * n < b.length + 256 := by rw [hn]; unfold sect; omega
  have hln2 : b.length ≤ 256 * n := by rw [hn]; exact sect_le _
  have HPL : Hid ((psecs b).length = n) := (show _ = _ from by rw [psecs_length, hn])
  have HPS : Hid (∀ k (hk : k < n), (psecs b).drop k = fsecB (padTo b) k :: (psecs b).drop (k + 1)) := (by
    intro k hk
    rw [List.drop_eq_getElem_cons (by rw [psecs_length, ← hn]; exact hk)]
    congr 1
    simp [psecs, fsecs])
  clear h hb hab hn
  go_enter Try.func42, Try.ntmps42
  go_wp2_with fail
  refine Calls.mono hse ?_
  rintro e w1 ⟨rfl, rfl⟩
  clear hse
  go_wp2
  go_loopw [13] (fun i wr => ∃ (k : Nat) (N : D), k ≤ n ∧ i = .int .i64 k ∧ Dev wr (Grow F w wr) d N ∧ Turn F w wr ∧ N.C.length ≤ M.C.length + k ∧ wrs M p (psecs b) = wrs N (p + k) ((psecs b).drop k)) (fun i _ => n - (intOf i).toNat)
  case atStart => exact ⟨0, M, Nat.zero_le _, rfl, HD.out, Turn.refl _ _, by omega, rfl⟩
  case round =>
    obtain ⟨k, N, hk, rfl, hN, hT, hNC, hwr⟩ := hrel
    clear HD
    by_cases hltk : k < n
    · rw [HPS.out k hltk, wrs] at hwr
      have hki : (k : Int) < (n : Int) := by omega
      have hne : b ≠ [] := by rintro rfl; simp at hln; omega
      obtain ⟨bb, off, rfl, hbl, hcs⟩ : ∃ bb off, a = some ⟨bb, off, none⟩ ∧ bb < w.heap.size ∧ True := by
        rcases HB.out.1 with h0 | ⟨b', off', e, h1, _⟩
        · exact absurd h0 hne
        · exact ⟨b', off', e, h1, trivial⟩
      have hbF : ¬ F bb := HB.out.2 hne _ rfl
      have hpt : Bytes wr (some ⟨bb, off + 256 * k, none⟩) ((b.drop (256 * k)).take 256) := ((HB.out.1.turn hT (HB.out.2 hne)).drop (256 * k)).take 256
      have hfs := padTo_fsec (b := b) (k := k) (by omega)
      obtain ⟨q, hq⟩ : ∃ q, q = 256 * k := ⟨_, rfl⟩
      have hml : ((b.drop (256 * k)).take 256).length = min (b.length - q) 256 := by rw [List.length_take, List.length_drop, ← hq]; omega
      obtain ⟨m, hmE⟩ : ∃ m, m = (b.drop (256 * k)).take 256 := ⟨_, rfl⟩
      rw [← hmE] at hpt hfs hml
      rw [← hq] at hpt
      have hq2 : (k : Int) * 256 = (q : Int) := by omega
      have hsl : ∀ wx, (Instr.slice 38 (.slice (some ⟨bb, off, none⟩) b.length cap) (some (.int .i64 (q : Int))) none none).run Try.prog wx = .ok (.slice (some ⟨bb, off + q, none⟩) (b.length - q) (cap - q)) wx := fun wx => slice_lo bb off b.length cap q (by omega) (by omega) wx
      obtain ⟨t, ht⟩ : ∃ t, t = p + k := ⟨_, rfl⟩
      have ht2 : (p : Int) + (k : Int) = (t : Int) := by omega
      rw [← ht] at hwr
      have hcap' := wr_cap N (t : Int) (fsecB (padTo b) k)
      obtain ⟨ev, hev⟩ : ∃ ev, ev = (N.wr (t : Int) (fsecB (padTo b) k)).1 := ⟨_, rfl⟩
      obtain ⟨N2, hN2⟩ : ∃ N2, N2 = (N.wr (t : Int) (fsecB (padTo b) k)).2 := ⟨_, rfl⟩
      have hpair : N.wr (t : Int) (fsecB (padTo b) k) = (ev, N2) := by rw [hev, hN2]
      rw [hpair] at hwr hcap'
      have HW : Hid (∀ w5, w5.ownsRow wr.heap.size 5 1 (.slice (some ⟨wr.heap.size, 0, none⟩) 256 256) 256 (bcs (List.replicate 256 0)) → wr.grownBy w5 none → ∃ w6, (Builtin.copy_ #[38, 38] 3 #[.slice (some ⟨wr.heap.size, 0, none⟩) 256 256, .slice (some ⟨bb, off + q, none⟩) (b.length - q) (cap - q)]).run Try.prog w5 = .ok (goInt m.length) w6 ∧
          Calls Try.prog 23 #[.pointer (some ⟨d, 0, none⟩), .int .i64 (t : Int), .slice (some ⟨wr.heap.size, 0, none⟩) 256 256] w6 fun e w' => e = .returned (.int .i64 ev) ∧ Dev w' (Grow F w w') d N2 ∧ Turn F w w') := (by
        intro w5 ho5 hg5
        have hb5 : Below wr.heap.size wr w5 := (Below.refl _ _).grown hg5 (Nat.le_refl _) (by simp)
        have hrow5 := row_full ho5
        obtain ⟨w6, e1, e2, e3⟩ := copy_part w5 3 wr.heap.size 256 (b.length - q) (cap - q) ⟨bb, off + q, none⟩ m hrow5 hml (Bytes.cells (hpt.below hb5 (Nat.le_refl _)))
        refine ⟨w6, e1, ?_⟩
        have hb6 : Below wr.heap.size wr w6 := hb5.grown e3 hb5.size (fun k e => by simp only [Option.some.injEq] at e; omega)
        rw [← hfs] at e2
        have hl6 : (fsec (padTo b) k).length = 256 := by rw [hfs, List.length_append, List.length_replicate, hml]; omega
        have hwc := write_any d (t : Int) (some ⟨wr.heap.size, 0, none⟩) (fsec (padTo b) k) 256 w6 (Grow F w wr) N (hN.below hb6) (bytes_row e2) (by
          intro ad e hf
          simp only [Option.some.injEq] at e
          subst e
          have hz := hT.size
          rcases hf with hf | hf
          · have := HFL.out _ hf; simp at this; omega
          · simp at hf) (by omega)
        rw [hl6, show (⟨(fsec (padTo b) k).toArray⟩ : ByteArray) = fsecB (padTo b) k from rfl, hpair] at hwc
        refine Calls.mono hwc ?_
        rintro e w7 ⟨rfl, hD7, hT7⟩
        have hT6 : Turn (Grow F w wr) wr w7 := (Turn.of_below hb6).trans' hT7
        refine ⟨rfl, hD7.wider ?_ ?_, hT.trans hT6⟩
        · intro j hj
          have := hT.size; have := hb6.size; have := hT7.size
          rcases hj with (hj | hj) | hj
          · exact .inl hj
          · exact .inr ⟨hj.1, by omega⟩
          · exact .inr ⟨by omega, hj.2⟩
        · intro j hj
          have := hT.size; have := hb6.size; have := hT7.size
          rcases hj with hj | hj
          · have := HFL.out j hj; omega
          · exact hj.2)
      have HWR : Hid (wrs M p (psecs b) = if ev ≠ 0 then (ev, N2) else wrs N2 (t + 1) ((psecs b).drop (k + 1))) := hwr
      have HTK : Hid (t = p + k) := ht
      have HCP : Hid (N2.C.length ≤ M.C.length + (k + 1)) := (show _ ≤ _ from by have : N2.C.length ≤ N.C.length + 1 := hcap'; omega)
      have hqb : q < b.length := by omega
      have hqc : q < cap := by omega
      clear hN hT hwr hpt hfs hev hN2 hcap' hpair hNC ht hml hmE hne hbF hq
      by_cases h0 : ev = 0
      · subst h0
        go_wp2_with (first
          | (at_make; refine wpList_make_full _ rfl _ _ 38 rfl wr.heap.size 5 i0 (.int .u8 0) 1 Try.underlying38 hi hz0 hz1 _ _ _ _ 256 rfl rfl (by first | rfl | omega) (by first | rfl | omega) hm (by unfold maxLen; omega) (Nat.le_refl _) ?_; intro w5 ho5 hg5; rw [made_bytes] at ho5; obtain ⟨w6, hcp, hwc⟩ := HW.out w5 ho5 hg5; clear ho5 hg5)
          | (go_at_call 23; refine Calls.mono hwc ?_; rintro e w7 ⟨rfl, hD7, hT7⟩))
        go_roundw
        case rel => exact ⟨k + 1, N2, by omega, by go_num, hD7, hT7, HCP.out, by rw [HWR.out, if_neg (by simp), HTK.out]; rfl⟩
        case measure => simp [intOf]; omega
      · have hb0 : (ev != 0) = true := by rw [bne_iff_ne]; exact h0
        have HE : Hid (wrsF M p (psecs b) = (ev, N2)) := (show _ = _ from by rw [wrsF, HWR.out, if_pos h0, if_pos h0])
        clear h0
        go_wp2_with (first
          | (at_make; refine wpList_make_full _ rfl _ _ 38 rfl wr.heap.size 5 i0 (.int .u8 0) 1 Try.underlying38 hi hz0 hz1 _ _ _ _ 256 rfl rfl (by first | rfl | omega) (by first | rfl | omega) hm (by unfold maxLen; omega) (Nat.le_refl _) ?_; intro w5 ho5 hg5; rw [made_bytes] at ho5; obtain ⟨w6, hcp, hwc⟩ := HW.out w5 ho5 hg5; clear ho5 hg5)
          | (go_at_call 23; refine Calls.mono hwc ?_; rintro e w7 ⟨rfl, hD7, hT7⟩))
        go_ret
        rw [HE.out]
        exact ⟨rfl, hD7, hT7⟩
    · obtain rfl : k = n := by omega
      rw [List.drop_eq_nil_of_le (by rw [HPL.out]; exact Nat.le_refl _)] at hwr
      have hfl := flush_any d wr (Grow F w wr) N hN (by omega)
      have HE : Hid (wrsF M p (psecs b) = N.flush) := (show _ = _ from by rw [wrsF, hwr]; simp [wrs])
      have HT : Hid (Turn F w wr) := hT
      clear hN hT hwr hNC
      go_wp2_with (go_at_call 72; refine Calls.mono hfl ?_; rintro e w5 ⟨rfl, hD5, hT5⟩)
      go_ret
      rw [HE.out]
      exact ⟨rfl, hD5.grow.regrow HT.out.size hT5.size, HT.out.trans hT5⟩
end Go.Proofs.Ytpmjkgpmidejoaa
/-
  A unit's bytes: its sum, the highest byte first, then its data with noughts behind them; package blob's seal by its contract.
-/
namespace Go.Proofs.Ytpmjkgpmidejoaa
open Go.RowKit

/-- The data of a unit, noughts behind it. -/
def bodyL (l : List UInt8) : List UInt8 := l ++ List.replicate (252 - l.length) 0
def sealL (l : List UInt8) : List UInt8 := be (crcL (bodyL l)).toNat 4 ++ bodyL l
theorem bodyL_length {l : List UInt8} (h : l.length ≤ 252) : (bodyL l).length = 252 := by rw [bodyL, List.length_append, List.length_replicate]; omega
theorem sealL_length {l : List UInt8} (h : l.length ≤ 252) : (sealL l).length = 256 := by rw [sealL, List.length_append, be_length, bodyL_length h]

theorem copy_off (w : World) (ty : TypeId) (g sCap R : Nat) (a : Addr) (m : List UInt8) (hg : w.heap[g]? = some (.cells (bcs (List.replicate (4 + R) 0)).toArray 5 (0, 0))) (hm : m.length ≤ R) (hsrc : ∀ j u, (bcs m)[j]? = some u → w.cell? (a.add j) = some u) :
    ∃ w', (Builtin.copy_ #[38, 38] ty #[.slice (some ⟨g, 4, none⟩) R R, .slice (some a) m.length sCap]).run Try.prog w = .ok (goInt m.length) w' ∧ w'.heap[g]? = some (.cells (bcs (List.replicate 4 0 ++ (m ++ List.replicate (R - m.length) 0))).toArray 5 (0, 0)) ∧ w.grownBy w' (some g) := by
  have hl : (bcs m).length = m.length := bcs_length m
  have hrun := run_copy_row (P := Try.prog) w 38 38 ty 5 g 4 R R a m.length sCap (bcs (List.replicate (4 + R) 0)).toArray 5 (bcs m) Try.underlying38 size5 hg (by rw [hl]; exact (Nat.min_eq_left hm).symm) hsrc (by simp [bcs]; omega) (bcs_one _)
  rw [hl] at hrun
  refine ⟨_, hrun, ?_, ⟨rfl, rfl, rfl, by simp, fun k hk hne => setRow_other w g k _ (by intro e; subst e; exact hne rfl)⟩⟩
  rw [setRow_heap w g _ _ 5 _ hg]
  have e : (bcs (List.replicate (4 + R) 0)).toArray.toList.take 4 ++ bcs m ++ (bcs (List.replicate (4 + R) 0)).toArray.toList.drop (4 + m.length) = bcs (List.replicate 4 0 ++ (m ++ List.replicate (R - m.length) 0)) := by
    have e1 : 4 + R - (4 + m.length) = R - m.length := by omega
    simp [bcs, List.drop_replicate, List.take_replicate, e1]
  exact congrArg (fun x => some (Obj.cells (List.toArray x) 5 (0, 0))) e
theorem copy_four (w : World) (ty : TypeId) (g sCap : Nat) (a : Addr) (m : List UInt8) (hg : w.heap[g]? = some (.cells (bcs (List.replicate 256 0)).toArray 5 (0, 0))) (hm : m.length ≤ 252) (hsrc : ∀ j u, (bcs m)[j]? = some u → w.cell? (a.add j) = some u) :
    ∃ w', (Builtin.copy_ #[38, 38] ty #[.slice (some ⟨g, 4, none⟩) 252 252, .slice (some a) m.length sCap]).run Try.prog w = .ok (goInt m.length) w' ∧ w'.heap[g]? = some (.cells (bcs (List.replicate 4 0 ++ bodyL m)).toArray 5 (0, 0)) ∧ w.grownBy w' (some g) :=
  copy_off w ty g sCap 252 a m hg hm hsrc

theorem be4 (n : Nat) : be n 4 = [UInt8.ofNat (n / 2 ^ 24), UInt8.ofNat (n / 2 ^ 16), UInt8.ofNat (n / 2 ^ 8), UInt8.ofNat n] := by simp [be]
/-- The row while its sum is being laid. -/
def sumRow (n k : Nat) (B : List UInt8) : List UInt8 := (be n 4).take k ++ List.replicate (4 - k) 0 ++ B
theorem row_set {w : World} {g : Nat} {l : List UInt8} (h : w.heap[g]? = some (.cells (bcs l).toArray 5 (0, 0))) (j : Nat) (x : UInt8) : (w.setCell ⟨g, j, none⟩ (.int .u8 (x.toNat : Int))).heap[g]? = some (.cells (bcs (l.set j x)).toArray 5 (0, 0)) := by
  rw [set_blk h, List.setIfInBounds_toArray, bcs, bcs, List.map_set]
theorem sumRow_set (n : Nat) (B : List UInt8) (k : Nat) (hk : k < 4) : (sumRow n k B).set k (UInt8.ofNat (n / 2 ^ (8 * (3 - k)))) = sumRow n (k + 1) B := by
  rcases (by omega : k = 0 ∨ k = 1 ∨ k = 2 ∨ k = 3) with rfl | rfl | rfl | rfl <;> simp [sumRow, be4, List.replicate]
theorem sumRow_length (n k : Nat) (B : List UInt8) (hk : k ≤ 4) : (sumRow n k B).length = 4 + B.length := by
  simp [sumRow, be_length]; omega
theorem row_cell {w : World} {g : Nat} {l : List UInt8} (h : w.heap[g]? = some (.cells (bcs l).toArray 5 (0, 0))) {j : Nat} (hj : j < l.length) : w.cell? ⟨g, j, none⟩ = some (.int .u8 (l[j].toNat : Int)) := by
  rw [cell_blk h]
  simpa using bcs_get hj
theorem sum_byte (x : Wd) (j : Nat) : (W x / 2 ^ (8 * j)) % 256 = ((UInt8.ofNat (x.toNat / 2 ^ (8 * j))).toNat : Int) := by
  rw [UInt8.toNat_ofNat', W]
  simp

set_option maxHeartbeats 2000000 in
set_option maxRecDepth 20000 in
theorem seal_any (w : World) (b off cap : Nat) (l : List UInt8) (hl : l.length ≤ 252) (hb : Bytes w (some ⟨b, off, none⟩) l) :
    Calls Try.prog 74 #[.slice (some ⟨b, off, none⟩) l.length cap] w fun e w' => e = .returned (.slice (some ⟨w.heap.size, 0, none⟩) 256 256) ∧ w'.heap[w.heap.size]? = some (.cells (bcs (sealL l)).toArray 5 (0, 0)) ∧ Below w.heap.size w w' := by
  obtain ⟨i0, hi, hz0, hz1, hz2⟩ := info_parts info5
  have hm : i0.bytes * 256 ≤ 281474976710656 := by rw [hz2]; omega
  have hsl : ∀ wx, (Instr.slice 38 (.slice (some ⟨w.heap.size, 0, none⟩) 256 256) (some (.int .i64 4)) none none).run Try.prog wx = .ok (.slice (some ⟨w.heap.size, 4, none⟩) 252 252) wx := fun wx => slice_lo w.heap.size 0 256 256 4 (by omega) (by omega) wx
  have HW : Hid (∀ w5, w5.ownsRow w.heap.size 5 1 (.slice (some ⟨w.heap.size, 0, none⟩) 256 256) 256 (bcs (List.replicate 256 0)) → w.grownBy w5 none → ∃ w6, (Builtin.copy_ #[38, 38] 3 #[.slice (some ⟨w.heap.size, 4, none⟩) 252 252, .slice (some ⟨b, off, none⟩) l.length cap]).run Try.prog w5 = .ok (goInt l.length) w6 ∧
      Calls Try.prog 87 #[.slice (some ⟨w.heap.size, 4, none⟩) 252 252] w6 fun e w' => e = .returned (.int .u32 (W (crcL (bodyL l)))) ∧ w'.heap[w.heap.size]? = some (.cells (bcs (sumRow (crcL (bodyL l)).toNat 0 (bodyL l))).toArray 5 (0, 0)) ∧ Below w.heap.size w w') := (by
    intro w5 ho5 hg5
    have hb5 : Below w.heap.size w w5 := (Below.refl _ _).grown hg5 (Nat.le_refl _) (by simp)
    have hrow5 := row_full ho5
    obtain ⟨w6, e1, e2, e3⟩ := copy_four w5 3 w.heap.size cap ⟨b, off, none⟩ l hrow5 hl (Bytes.cells (hb.below hb5 (Nat.le_refl _)))
    refine ⟨w6, e1, ?_⟩
    have hb6 : Below w.heap.size w w6 := hb5.grown e3 hb5.size (fun k e => by simp only [Option.some.injEq] at e; omega)
    have hby := (bytes_row e2).drop 4
    rw [Nat.zero_add, List.drop_left' (by simp)] at hby
    have hc := crc_any (some ⟨w.heap.size, 4, none⟩) (bodyL l) 252 w6 (by rw [bodyL_length hl]; omega) hby
    rw [bodyL_length hl] at hc
    refine hc.mono ?_
    rintro e w7 ⟨rfl, hb7⟩
    have hlt : w.heap.size < w6.heap.size := (Array.getElem?_eq_some_iff.1 e2).1
    exact ⟨rfl, (hb7.block _ hlt).trans e2, hb6.trans (hb7.mono hb6.size)⟩)
  have HS : Hid (sealL l = sumRow (crcL (bodyL l)).toNat 4 (bodyL l)) := (show _ = _ from by simp [sealL, sumRow, List.take_of_length_le (Nat.le_of_eq (be_length _ 4))])
  obtain ⟨B, hB⟩ : ∃ B, B = bodyL l := ⟨_, rfl⟩
  rw [← hB] at HW HS
  have HBL : Hid (B.length = 252) := (show _ = _ from by rw [hB, bodyL_length hl])
  obtain ⟨x, hx⟩ : ∃ x, x = crcL B := ⟨_, rfl⟩
  rw [← hx] at HW HS
  clear hb hB hx
  go_enter Try.func74, Try.ntmps74
  go_wp2_with (first
    | (at_make; refine wpList_make_full _ rfl _ _ 38 rfl w.heap.size 5 i0 (.int .u8 0) 1 Try.underlying38 hi hz0 hz1 _ _ _ _ 256 rfl rfl (by first | rfl | omega) (by first | rfl | omega) hm (by unfold maxLen; omega) (Nat.le_refl _) ?_; intro w5 ho5 hg5; rw [made_bytes] at ho5; obtain ⟨w6, hcp, hwc⟩ := HW.out w5 ho5 hg5; clear ho5 hg5)
    | (go_at_call 87; refine Calls.mono hwc ?_; rintro e w7 ⟨rfl, hr7, hb7⟩))
  have b1 := W_bd x
  go_loopw [14] (fun i wr => ∃ k : Nat, k ≤ 4 ∧ i = .int .i64 k ∧ wr.heap[w.heap.size]? = some (.cells (bcs (sumRow x.toNat k B)).toArray 5 (0, 0)) ∧ Below w.heap.size w wr) (fun i _ => 4 - (intOf i).toNat)
  case atStart => exact ⟨0, by omega, rfl, hr7, hb7⟩
  case round =>
    obtain ⟨k, hk, rfl, hr, hbw⟩ := hrel
    rcases (by omega : k = 0 ∨ k = 1 ∨ k = 2 ∨ k = 3 ∨ k = 4) with rfl | rfl | rfl | rfl | rfl
    · have hf := frozen_blk hr 0
      obtain ⟨c, hc0⟩ : ∃ c, wr.cell? ⟨w.heap.size, 0, none⟩ = some c := ⟨_, row_cell hr (by rw [sumRow_length _ _ _ (by omega), HBL.out]; omega)⟩
      have HR : Hid (wr.heap[w.heap.size]? = some (.cells (bcs (sumRow x.toNat 0 B)).toArray 5 (0, 0)) ∧ Below w.heap.size w wr) := ⟨hr, hbw⟩
      clear hr hbw
      go_wp2
      go_roundw
      case rel =>
        refine ⟨1, by omega, rfl, ?_, HR.out.2.setCell (Nat.le_refl _) _⟩
        have := row_set HR.out.1 0 (UInt8.ofNat (x.toNat / 2 ^ (8 * (3 - 0))))
        rw [sumRow_set _ _ _ (by omega)] at this
        rw [← this]
        congr 3
        all_goals have := W_bd x
        all_goals first | exact sum_byte _ _ | (rw [← sum_byte]; simp; done) | (rw [← sum_byte]; simp; omega)
      case measure => simp [intOf]
    · have hf := frozen_blk hr 1
      obtain ⟨c, hc0⟩ : ∃ c, wr.cell? ⟨w.heap.size, 1, none⟩ = some c := ⟨_, row_cell hr (by rw [sumRow_length _ _ _ (by omega), HBL.out]; omega)⟩
      have HR : Hid (wr.heap[w.heap.size]? = some (.cells (bcs (sumRow x.toNat 1 B)).toArray 5 (0, 0)) ∧ Below w.heap.size w wr) := ⟨hr, hbw⟩
      clear hr hbw
      go_wp2
      go_roundw
      case rel =>
        refine ⟨2, by omega, rfl, ?_, HR.out.2.setCell (Nat.le_refl _) _⟩
        have := row_set HR.out.1 1 (UInt8.ofNat (x.toNat / 2 ^ (8 * (3 - 1))))
        rw [sumRow_set _ _ _ (by omega)] at this
        rw [← this]
        congr 3
        all_goals have := W_bd x
        all_goals first | exact sum_byte _ _ | (rw [← sum_byte]; simp; done) | (rw [← sum_byte]; simp; omega)
      case measure => simp [intOf]
    · have hf := frozen_blk hr 2
      obtain ⟨c, hc0⟩ : ∃ c, wr.cell? ⟨w.heap.size, 2, none⟩ = some c := ⟨_, row_cell hr (by rw [sumRow_length _ _ _ (by omega), HBL.out]; omega)⟩
      have HR : Hid (wr.heap[w.heap.size]? = some (.cells (bcs (sumRow x.toNat 2 B)).toArray 5 (0, 0)) ∧ Below w.heap.size w wr) := ⟨hr, hbw⟩
      clear hr hbw
      go_wp2
      go_roundw
      case rel =>
        refine ⟨3, by omega, rfl, ?_, HR.out.2.setCell (Nat.le_refl _) _⟩
        have := row_set HR.out.1 2 (UInt8.ofNat (x.toNat / 2 ^ (8 * (3 - 2))))
        rw [sumRow_set _ _ _ (by omega)] at this
        rw [← this]
        congr 3
        all_goals have := W_bd x
        all_goals first | exact sum_byte _ _ | (rw [← sum_byte]; simp; done) | (rw [← sum_byte]; simp; omega)
      case measure => simp [intOf]
    · have hf := frozen_blk hr 3
      obtain ⟨c, hc0⟩ : ∃ c, wr.cell? ⟨w.heap.size, 3, none⟩ = some c := ⟨_, row_cell hr (by rw [sumRow_length _ _ _ (by omega), HBL.out]; omega)⟩
      have HR : Hid (wr.heap[w.heap.size]? = some (.cells (bcs (sumRow x.toNat 3 B)).toArray 5 (0, 0)) ∧ Below w.heap.size w wr) := ⟨hr, hbw⟩
      clear hr hbw
      go_wp2
      go_roundw
      case rel =>
        refine ⟨4, by omega, rfl, ?_, HR.out.2.setCell (Nat.le_refl _) _⟩
        have := row_set HR.out.1 3 (UInt8.ofNat (x.toNat / 2 ^ (8 * (3 - 3))))
        rw [sumRow_set _ _ _ (by omega)] at this
        rw [← this]
        congr 3
        all_goals have := W_bd x
        all_goals first | exact sum_byte _ _ | (rw [← sum_byte]; simp; done) | (rw [← sum_byte]; simp; omega)
      case measure => simp [intOf]
    · have HR : Hid (wr.heap[w.heap.size]? = some (.cells (bcs (sumRow x.toNat 4 B)).toArray 5 (0, 0)) ∧ Below w.heap.size w wr) := ⟨hr, hbw⟩
      clear hr hbw
      go_wp2
      go_ret
      rw [HS.out]
      exact ⟨rfl, HR.out.1, HR.out.2⟩
end Go.Proofs.Ytpmjkgpmidejoaa
