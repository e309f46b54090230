/-
  Flush by its contract.
-/
import Derived.Test.YtpmjkgpmidejoaaRun01
import Derived.Lib.SliceRun
import Derived.Lib.Walk
import Derived.Test.YtpmjkgpmidejoaaRun04
import Derived.Test.YtpmjkgpmidejoaaRun06
import Derived.Test.YtpmjkgpmidejoaaRun02
import Derived.BigRegion
import Derived.WalkMore
import Derived.ScopeJumps
import Derived.Deep.CutRange
import Derived.Deep.DeepCutAuto
import Derived.Deep.RegionWith
namespace Go.Proofs.Ytpmjkgpmidejoaa
open Go.RowKit

theorem alloc_set {w : World} (o : Obj) {g i : Nat} (u : Value) : ∀ k, k < w.heap.size → ((w.alloc o).setCell ⟨g, i, none⟩ u).heap[k]? = (w.setCell ⟨g, i, none⟩ u).heap[k]? := by
  intro k hk
  have hp : (w.alloc o).heap[k]? = w.heap[k]? := Below.heap_alloc _ _ _ hk
  simp only [World.setCell, Array.getElem?_modify, hp]

/-- One of the waiting writes made lasting: what the round leaves. -/
theorem DevV.setL {w w' : World} {d gl n cl i : Nat} {sv cv : Value} {M : D} {b : ByteArray} (h : DevV w d (.slice (some ⟨gl, 0, none⟩) n cl) sv cv M) (hn : M.L.length = n) (hw : ∀ k, k < w.heap.size → w'.heap[k]? = (w.setCell ⟨gl, i, none⟩ (.string b)).heap[k]?) : DevV w' d (.slice (some ⟨gl, 0, none⟩) n cl) sv cv { M with L := M.L.set i b } := by
  subst hn
  have dl := h.dl gl rfl
  have lt : ∀ k, k ≠ gl → k < w.heap.size → w'.heap[k]? = w.heap[k]? := fun k hk hlt => (hw k hlt).trans (Below.heap_setCell _ _ _ _ hk)
  have kd : d < w.heap.size := (Array.getElem?_eq_some_iff.1 h.blk).1
  refine ⟨(lt d dl.1.symm kd).trans h.blk, ?_, ?_, ?_, h.dl, h.ds, h.dc⟩
  · have o := owns_set h.lr i (.string b)
    rw [← scs_set] at o
    show w'.ownsRow 0 9 1 _ (M.L.set i b).length (scs (M.L.set i b))
    rw [List.length_set]
    refine owns_other o fun j hj => ?_
    obtain rfl : gl = j := by simpa [Value.ownBlock] using hj
    exact hw gl (World.ownsRow.lt h.lr gl rfl).2
  · exact owns_other h.sr fun j hj => lt j (fun e => dl.2.1 (by rw [hj, e])) (World.ownsRow.lt h.sr j hj).2
  · exact owns_other h.cr fun j hj => lt j (fun e => dl.2.2 (by rw [hj, e])) (World.ownsRow.lt h.cr j hj).2

theorem DevV.kept {w w' : World} {d : Nat} {lv sv cv : Value} {M : D} (h : DevV w d lv sv cv M) (hw : ∀ k, k < w.heap.size → w'.heap[k]? = w.heap[k]?) : DevV w' d lv sv cv M := by
  refine h.other fun k hk => hw k ?_
  rcases hk with hk | hk | hk | hk
  · rw [hk]; exact (Array.getElem?_eq_some_iff.1 h.blk).1
  · exact (World.ownsRow.lt h.lr k hk).2
  · exact (World.ownsRow.lt h.sr k hk).2
  · exact (World.ownsRow.lt h.cr k hk).2

set_option maxHeartbeats 4000000 in
theorem flush_go (d : Nat) (w : World) (F : Nat → Prop) (M : D) (h : Dev w F d M) (h0 : M.burn.1 = 0) (hC : M.C.length ≤ 100000) :
    Calls Try.prog 72 #[.pointer (some ⟨d, 0, none⟩)] w fun e w' => e = .returned (.int .i64 0) ∧ Dev w' F d { M.burn.2 with L := app M.L M.C, C := [] } ∧ Turn F w w' := by
  have hburn := burn_any d w F M h
  rw [h0] at hburn
  obtain ⟨e1, e2, e3⟩ := M.burn_L
  rw [← e3, ← e1]
  rw [← e3] at hC
  obtain ⟨N, hN⟩ : ∃ N, N = M.burn.2 := ⟨_, rfl⟩
  rw [← hN] at hburn hC ⊢
  clear hN e1 e2 e3 h h0
  go_enter Try.func72, Try.ntmps72
  go_wp2_with fail
  refine hburn.mono ?_
  rintro e w1 ⟨rfl, hD, hT⟩
  clear hburn
  have hok := hD.1
  obtain ⟨gl, cl, gs, cs, ca, cc, hV, hF, hcs, hcl⟩ := hD.open
  have b2 := cell_blk hV.blk 2
  simp only [List.getElem?_toArray] at b2
  have HT : Hid (Turn F w w1) := hT
  have HD : Hid (Dev w1 F d N) := hD
  have HV := (show Hid (DevV w1 d (.slice (some ⟨gl, 0, none⟩) N.L.length cl) (.slice (some ⟨gs, 0, none⟩) N.S.length cs) (.slice ca N.C.length cc) N) from hV)
  have HF := (show Hid _ from hF)
  clear hT hD hV hF
  go_wp2
  go_loopw [16] (fun i wr => ∃ k : Nat, k ≤ N.C.length ∧ i = .int .i64 k ∧ DevV wr d (.slice (some ⟨gl, 0, none⟩) N.L.length cl) (.slice (some ⟨gs, 0, none⟩) N.S.length cs) (.slice ca N.C.length cc) { N with L := app N.L (N.C.take k) } ∧ Turn F w1 wr)
    (fun i _ => N.C.length - (intOf i).toNat)
  case atStart => exact ⟨0, Nat.zero_le _, rfl, HV.out, Turn.refl _ _⟩
  case round =>
    obtain ⟨k, hk, rfl, hV, hT⟩ := hrel
    clear b2
    by_cases hlt : k < N.C.length
    · obtain ⟨gc, cc', hce, hcc, _, _⟩ := owns_head hV.cr (by show 0 < N.C.length; omega)
      simp only [Value.slice.injEq] at hce
      obtain ⟨rfl, _, rfl⟩ := hce
      have ha := owns_cell hV.cr (ccs_get hlt).1
      have hb := owns_cell hV.cr (ccs_get hlt).2
      obtain ⟨s, b, hp⟩ : ∃ s b, N.C[k] = (s, b) := ⟨_, _, rfl⟩
      simp only [hp] at ha hb
      have hlL : (app N.L (N.C.take k)).length = N.L.length := app_length _ _
      have hsec : s < N.L.length := hok.sec (s, b) (by rw [← hp]; exact List.getElem_mem _)
      have hlr := hV.lr
      simp only [hlL] at hlr
      obtain ⟨ot, hl⟩ : ∃ ot, wr.cell? ⟨gl, s, none⟩ = some (.string ot) := ⟨_, owns_cell hlr (scs_get (l := app N.L (N.C.take k)) (j := s) (by rw [hlL]; exact hsec))⟩
      have hfl := owns_frozen hlr s
      have b0 := cell_blk hV.blk 0
      simp only [List.getElem?_toArray] at b0
      have hki : (k : Int) < (N.C.length : Int) := by omega
      have hpi : (s : Int) < (N.L.length : Int) := by omega
      have HV2 := (show Hid _ from hV)
      have HP := (show Hid _ from hp)
      have HSEC := (show Hid _ from hsec)
      clear hV hp hsec hlL hlr HV HD HT
      obtain ⟨W, hW⟩ : ∃ W, W = wr.alloc (.cells #[.int .i64 (s : Int), .string b] 109) := ⟨_, rfl⟩
      have hn := heap_alloc_new wr (.cells #[.int .i64 (s : Int), .string b] 109)
      rw [← hW] at hn
      have n0 := cell_blk hn 0
      have n1 := cell_blk hn 1
      simp only [List.getElem?_toArray] at n0 n1
      have x0 : W.cell? ⟨d, 0, none⟩ = some (.slice (some ⟨gl, 0, none⟩) N.L.length cl) := by rw [hW]; exact Lib.cell?_alloc_some _ b0
      have x1 : W.cell? ⟨gl, s, none⟩ = some (.string ot) := by rw [hW]; exact Lib.cell?_alloc_some _ hl
      have x2 : W.frozen? ⟨gl, s, none⟩ = false := by
        rw [hW, World.frozen?_of_block (w := wr) (a := ⟨gl, s, none⟩) (Below.heap_alloc _ _ _ (World.block_lt_of_cell? _ _ hl))]
        exact hfl
      go_wp2
      rw [← hW]
      have HW := (show Hid (W = wr.alloc (.cells #[.int .i64 (s : Int), .string b] 109)) from hW)
      clear hl hfl b0 hn ha hb hW
      go_region
      go_wp2
      go_roundw
      case rel =>
        have hV := HV2.out
        have hlL : (app N.L (N.C.take k)).length = N.L.length := app_length _ _
        have hFl : F gl := HF.out gl (.inr (.inl rfl))
        refine ⟨k + 1, by omega, by go_num, ?_, ?_⟩
        · have := DevV.setL (w' := (W.setCell ⟨gl, s, none⟩ (.string b)).drew) (i := s) (b := b) hV hlL (by rw [HW.out]; exact alloc_set _ _)
          rw [app_take hlt, HP.out]
          exact this
        · rw [HW.out]
          exact ((hT.alloc _).setCell hFl _).drew
      case measure => simp [intOf]; omega
    · obtain rfl : k = N.C.length := by omega
      have b2 := cell_blk hV.blk 2
      have f2 := frozen_blk hV.blk 2
      simp only [List.getElem?_toArray] at b2
      rw [List.take_length] at hV
      have HV2 := (show Hid _ from hV)
      clear hV HV
      go_wp2
      go_ret
      have hV := HV2.out
      refine ⟨rfl, ⟨⟨?_, ?_, ?_, by intro p hp; simp at hp, hok.st, hok.k0, hok.k1⟩, ?_, .slice (some ⟨gl, 0, none⟩) N.L.length cl, .slice (some ⟨gs, 0, none⟩) N.S.length cs, .slice none 0 0, ⟨?_, ?_, ?_, ?_, ?_, ?_, ?_⟩, ?_⟩, ?_⟩
      · show N.S.length = (app N.L N.C).length
        rw [app_length]
        exact hok.len
      · show 0 < (app N.L N.C).length
        rw [app_length]
        exact hok.pos
      · show (app N.L N.C).length ≤ 4096
        rw [app_length]
        exact hok.top
      · intro k hk
        have := HD.out.2.1 k hk
        have := hT.size
        simp [World.setCell]
        omega
      · rw [set_blk hV.blk 2 _]
        rfl
      · exact owns_setCell hV.lr (fun e => (hV.dl d e).1 rfl) _
      · exact owns_setCell hV.sr (fun e => (hV.ds d e).1 rfl) _
      · exact World.ownsRow_nil _ 0 109 2
      · exact fun g hg => ⟨(hV.dl g hg).1, (hV.dl g hg).2.1, by simp [Value.ownBlock]⟩
      · exact fun g hg => ⟨(hV.ds g hg).1, by simp [Value.ownBlock]⟩
      · exact fun g hg => by simp [Value.ownBlock] at hg
      · intro k hk
        rcases hk with hk | hk | hk | hk
        · exact HF.out k (.inl hk)
        · exact HF.out k (.inr (.inl hk))
        · exact HF.out k (.inr (.inr (.inl hk)))
        · simp [Value.ownBlock] at hk
      · exact HT.out.trans' (hT.setCell (HF.out d (.inl rfl)) _)

set_option maxHeartbeats 2000000 in
theorem flush_burnt (d : Nat) (w : World) (F : Nat → Prop) (M : D) (h : Dev w F d M) (h50 : M.burn.1 = 50) :
    Calls Try.prog 72 #[.pointer (some ⟨d, 0, none⟩)] w fun e w' => e = .returned (.int .i64 50) ∧ Dev w' F d M.burn.2 ∧ Turn F w w' := by
  have hburn := burn_any d w F M h
  rw [h50] at hburn
  clear h h50
  go_enter Try.func72, Try.ntmps72
  go_wp2_with fail
  refine hburn.mono ?_
  rintro e w1 ⟨rfl, hD, hT⟩
  go_wp2
  go_ret
  exact ⟨rfl, hD, hT⟩

theorem flush_any (d : Nat) (w : World) (F : Nat → Prop) (M : D) (h : Dev w F d M) (hC : M.C.length ≤ 100000) :
    Calls Try.prog 72 #[.pointer (some ⟨d, 0, none⟩)] w fun e w' => e = .returned (.int .i64 M.flush.1) ∧ Dev w' F d M.flush.2 ∧ Turn F w w' := by
  have h2 : M.burn.1 = 0 ∨ M.burn.1 = 50 := by
    unfold D.burn
    split
    · exact .inl rfl
    · split
      · exact .inl rfl
      · exact .inr rfl
  rcases h2 with h0 | h50
  · have e : M.flush = (0, { M.burn.2 with L := app M.L M.C, C := [] }) := by rw [D.flush, if_neg (by omega)]
    rw [e]
    exact flush_go d w F M h h0 hC
  · have e : M.flush = M.burn := by rw [D.flush, if_pos (by omega)]
    rw [e, h50]
    exact flush_burnt d w F M h h50
end Go.Proofs.Ytpmjkgpmidejoaa
/-
  Sectors of a device read and counted: package sectors by its contracts (Count, Within, Read).
-/
namespace Go.Proofs.Ytpmjkgpmidejoaa
open Go.RowKit

def sect (n : Nat) : Nat := (n + 255) / 256

theorem count_any (n : Nat) (w : World) (h : n ≤ 9223372036854775807) : Calls Try.prog 71 #[.int .i64 (n : Int)] w fun e w' => e = .returned (.int .i64 (sect n : Int)) ∧ w = w' := by
  rcases Nat.eq_zero_or_pos (n % 256) with h0 | h0
  · go_enter Try.func71, Try.ntmps71
    go_wp2
    go_ret
    exact ⟨ret_int (by unfold sect; omega), rfl⟩
  · go_enter Try.func71, Try.ntmps71
    go_wp2
    go_ret
    exact ⟨ret_int (by unfold sect; omega), rfl⟩

theorem within_yes (d : Nat) (p n : Nat) (w : World) (F : Nat → Prop) (M : D) (h : Dev w F d M) (hn : p + n ≤ M.L.length) :
    Calls Try.prog 35 #[.pointer (some ⟨d, 0, none⟩), .int .i64 (p : Int), .int .i64 (n : Int)] w fun e w' => e = .returned (.bool true) ∧ w = w' := by
  have hsz := size_any d w F M h
  have htop := h.1.top
  have h1 : (p : Int) ≤ (M.L.length : Int) - (n : Int) := by omega
  have h2 : (0 : Int) ≤ (n : Int) := by omega
  have h3 : (0 : Int) ≤ (p : Int) := by omega
  obtain ⟨k, hk⟩ : ∃ k, k = M.L.length := ⟨_, rfl⟩
  rw [← hk] at hsz htop h1 hn
  clear h hk
  go_enter Try.func35, Try.ntmps35
  go_wp2_with (go_at_call 66; refine Calls.mono hsz ?_; rintro e w1 ⟨rfl, rfl⟩)
  go_ret
  exact ⟨rfl, rfl⟩
/-- The bytes of k sectors from one on. -/
def secs (S : List ByteArray) (p k : Nat) : List UInt8 := ((S.drop p).take k).flatMap fun x => x.data.toList
theorem secs_succ {S : List ByteArray} {p k : Nat} (h : p + k < S.length) : secs S p (k + 1) = secs S p k ++ S[p + k].data.toList := by
  unfold secs
  have hk : k < (S.drop p).length := by simp; omega
  rw [List.take_succ_eq_append_getElem hk, List.flatMap_append]
  simp
theorem secs_length {S : List ByteArray} (hS : ∀ x ∈ S, x.size = 256) {p : Nat} : ∀ {k : Nat}, p + k ≤ S.length → (secs S p k).length = 256 * k
  | 0, _ => by simp [secs]
  | k + 1, h => by
    rw [secs_succ (by omega), List.length_append, secs_length hS (k := k) (by omega)]
    have : (S[p + k]'(by omega)).size = 256 := hS _ (List.getElem_mem _)
    have e : (S[p + k]'(by omega)).data.toList.length = (S[p + k]'(by omega)).size := by simp
    omega
theorem sect_le (n : Nat) : n ≤ 256 * sect n := by unfold sect; omega


end Go.Proofs.Ytpmjkgpmidejoaa
