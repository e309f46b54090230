/-
  Package blob's Read where it goes over the units.
-/
import Derived.Test.YtpmjkgpmidejoaaRun18
import Derived.Test.YtpmjkgpmidejoaaRun15
namespace Go.Proofs.Ytpmjkgpmidejoaa
open Go.RowKit
open Al (Spc Kep turnB putB)

theorem rdGo_long (M : D) (base off n : Nat) (f i : Nat) (acc : List UInt8) (h : min (off + n - 252 * i) 252 ≤ off - 252 * i) : rdGo M base off n (f + 1) i acc = rdGo M base off n f (i + 1) acc := by rw [rdGo, if_pos h]
theorem rdGo_bad (M : D) (base off n : Nat) (f i : Nat) (acc : List UInt8) (h : ¬ min (off + n - 252 * i) 252 ≤ off - 252 * i) (he : unE M (base + i) ≠ 0) : rdGo M base off n (f + 1) i acc = (unE M (base + i), []) := by rw [rdGo, if_neg h, if_pos he]
theorem rdGo_good (M : D) (base off n : Nat) (f i : Nat) (acc : List UInt8) (h : ¬ min (off + n - 252 * i) 252 ≤ off - 252 * i) (he : unE M (base + i) = 0) : rdGo M base off n (f + 1) i acc = rdGo M base off n f (i + 1) (acc ++ ((unL M (base + i)).drop (off - 252 * i)).take (min (off + n - 252 * i) 252 - (off - 252 * i))) := by rw [rdGo, if_neg h, if_neg (by simpa using he)]

theorem slice_two (b n c lo hi : Nat) (h1 : lo < hi) (h2 : hi ≤ c) (wx : World) : (Instr.slice 38 (.slice (some ⟨b, 4, none⟩) n c) (some (.int .i64 (lo : Int))) (some (.int .i64 (hi : Int))) none).run Try.prog wx = .ok (.slice (some ⟨b, 4 + lo, none⟩) (hi - lo) (c - lo)) wx := by
  obtain ⟨i0, hi0, hz0, hz1, hz2⟩ := info_parts info5
  simp [Instr.slice, run_underlying Try.underlying38, Instr.sliceBounds, run_sliceBound, sizeOf, typeInfo, hi0, hz1, (by omega : (hi : Int) ≤ (c : Int)), (by omega : (lo : Int) ≤ (hi : Int)), Addr.add]
  rw [if_neg (by omega)]
  split
  · rename_i h; subst h; rfl
  · rfl

set_option maxHeartbeats 4000000 in
set_option maxRecDepth 100000 in
theorem bread_ok (w : World) (b d s fr : Nat) (F : Nat → Prop) (M : D) (L : List Bool) (h : St w b d s fr F M L) (S Z off n : Nat) (hg : giveR L (S : Int) (Z : Int) = true) (hle : off + n ≤ Z) (hS : ∀ x ∈ M.S, x.size = 256) (hin : fr + L.length ≤ M.S.length) :
    Calls Try.prog 15 #[.pointer (some ⟨b, 0, none⟩), rv (S : Int) (Z : Int), .int .i64 (off : Int), .int .i64 (n : Int)] w fun e w' => ∃ v, e = .returned (.tuple #[v, .int .i64 (rdGo M (fr + S) off n (nsec Z) 0 []).1]) ∧ Own w' w.heap.size v (rdGo M (fr + S) off n (nsec Z) 0 []).2 ∧ Below w.heap.size w w' := by
  obtain ⟨i0, hi, hz0, hz1, hz2⟩ := info_parts info5
  have hA : Below w.heap.size w (w.alloc (.cells #[.int .i64 (S : Int), .int .i64 (Z : Int)] 40)) := (Below.refl _ w).alloc (Nat.le_refl _) _
  obtain ⟨S', Z', e1, e2, hSK, hall⟩ := giveR_nat hg
  obtain rfl : S' = S := by omega
  obtain rfl : Z' = Z := by omega
  have hLl := h.sp.len
  have hML : M.S.length ≤ 4096 := by rw [h.dev.1.len]; exact h.dev.1.top
  obtain ⟨K, hK⟩ : ∃ K, K = nsec Z' := ⟨_, rfl⟩
  have hZK : Z' ≤ 252 * K := by rw [hK]; unfold nsec; omega
  rw [← hK] at hSK
  have hK4 : S' + K ≤ 4096 := by omega
  have hh := holds_any (w.alloc (.cells #[.int .i64 (S' : Int), .int .i64 (Z' : Int)] 40)) b d s fr L (S' : Int) (Z' : Int) (h.blb.below hA) (h.sp.below hA) (by omega) (by omega)
  rw [hg] at hh
  have HB : Hid (∀ w1, Below (w.alloc (.cells #[.int .i64 (S' : Int), .int .i64 (Z' : Int)] 40)).heap.size (w.alloc (.cells #[.int .i64 (S' : Int), .int .i64 (Z' : Int)] 40)) w1 → Below w.heap.size w w1 ∧ w1.cell? ⟨w.heap.size, 0, none⟩ = some (.int .i64 (S' : Int)) ∧ w1.cell? ⟨w.heap.size, 1, none⟩ = some (.int .i64 (Z' : Int)) ∧ w.heap.size < w1.heap.size) := fun w1 q => ⟨hA.trans (q.mono (by simp)), (q.cell (p := ⟨w.heap.size, 0, none⟩) (by simp)).trans (cell_blk (heap_alloc_new w _) 0), (q.cell (p := ⟨w.heap.size, 1, none⟩) (by simp)).trans (cell_blk (heap_alloc_new w _) 1), by have := q.size; simp at this; omega⟩
  have hsec := fun w => sectors_any (Z' : Int) w (by omega)
  rw [secI_nat, ← hK] at hsec
  have hm : i0.bytes * n ≤ 281474976710656 := by rw [hz2]; omega
  have HU : Hid (∀ wr k, Below w.heap.size w wr → k < K → Calls Try.prog 50 #[.pointer (some ⟨b, 0, none⟩), .int .i64 ((S' + k : Nat) : Int)] wr fun e w' => ∃ a n c, e = .returned (.tuple #[.slice a n c, .int .i64 (unE M (fr + S' + k))]) ∧ Below wr.heap.size wr w' ∧ (unE M (fr + S' + k) = 0 → ∃ g, a = some ⟨g, 4, none⟩ ∧ n = 252 ∧ 252 ≤ c ∧ wr.heap.size ≤ g ∧ Bytes w' (some ⟨g, 4, none⟩) (unL M (fr + S' + k)))) := (by
    intro wr k q1 q2
    have := unit_any wr b d s fr (S' + k) F M (h.blb.below q1) (h.dev.below q1) (by omega) hS
    rwa [show fr + (S' + k) = fr + S' + k from by omega] at this)
  have HUL : Hid (∀ k, k < K → (unL M (fr + S' + k)).length = 252) := (by
    intro k q2
    have hi2 : fr + S' + k < M.S.length := by omega
    have hx : M.S.getD (fr + S' + k) default = M.S[fr + S' + k] := by simp [List.getD, List.getElem?_eq_getElem hi2]
    have := hS _ (List.getElem_mem hi2)
    rw [unL, hx, List.length_drop]
    have e : (M.S[fr + S' + k]).data.toList.length = (M.S[fr + S' + k]).size := by simp
    omega)
  rw [← hK]
  obtain ⟨B, hB⟩ : ∃ B, B = fr + S' := ⟨_, rfl⟩
  rw [← hB] at HU HUL ⊢
  clear h hA hg hall e1 e2 hS hin hK hB hML hLl
  obtain ⟨R, hR⟩ : ∃ R, R = rdGo M B off n K 0 [] := ⟨_, rfl⟩
  rw [← hR]
  have HR : Hid (R = rdGo M B off n K 0 []) := hR
  clear hR
  have hn1 : ¬ ((Z' : Int) - (off : Int) < (n : Int)) := by omega
  go_enter Try.func15, Try.ntmps15
  go_wp2_with (first
    | (go_at_call 49; refine Calls.mono hh ?_; rintro e w1 ⟨rfl, q1⟩; obtain ⟨q2, q4, q3, q5⟩ := HB.out w1 q1; clear q1)
    | (go_at_call 28; refine Calls.mono (hsec _) ?_; rintro e w1' ⟨rfl, rfl⟩)
    | (at_make; refine wpList_make_own _ rfl _ _ 38 rfl w1.heap.size 5 i0 (.int .u8 0) 1 Try.underlying38 hi hz0 hz1 _ _ _ n rfl rfl (by omega) hm (by unfold maxLen; omega) (Nat.le_refl _) ?_; intro w0 hown0 hgrow0; have q6 : w0.cell? ⟨w.heap.size, 1, none⟩ = some (.int .i64 (Z' : Int)) := (World.cell?_of_block (hgrow0.block w.heap.size q5 (by simp))).trans q3))
  have HW : Hid (Below w.heap.size w w1 ∧ w1.cell? ⟨w.heap.size, 0, none⟩ = some (.int .i64 (S' : Int)) ∧ w.heap.size < w1.heap.size) := ⟨q2, q4, q5⟩
  have HI : Hid (Own w0 w1.heap.size (.slice (some ⟨w1.heap.size, 0, none⟩) 0 n) [] ∧ Below w1.heap.size w1 w0) := ⟨hown0, (Below.refl _ w1).grown hgrow0 (Nat.le_refl _) (by simp)⟩
  clear q2 q3 q4 q5 q6 hown0 hgrow0 hh hsec HB hm
  have t1 : ¬ (off : Int) < 0 := by omega
  have t2 : ¬ (n : Int) < 0 := by omega
  go_loopw [10, 42] (fun v i wr => ∃ (k : Nat) (acc : List UInt8), k ≤ K ∧ i = .int .i64 k ∧ Own wr w1.heap.size v acc ∧ acc.length ≤ 252 * k ∧ Below w1.heap.size w1 wr ∧ R = rdGo M B off n (K - k) k acc) (fun _ i _ => K - (intOf i).toNat)
  case atStart => exact ⟨0, [], Nat.zero_le _, rfl, HI.out.1, Nat.zero_le _, HI.out.2, HR.out⟩
  case round =>
    obtain ⟨k, acc, hk, rfl, hown, hacc, hbw, hrd⟩ := hrel
    clear HI HR
    obtain ⟨va, vc, rfl⟩ : ∃ a c, u10 = .slice a acc.length c := Al.own_slice hown
    by_cases hlt : k < K
    · have hki : (k : Int) < (K : Int) := by omega
      obtain ⟨at', hat⟩ : ∃ at', at' = 252 * k := ⟨_, rfl⟩
      have hatI : (k : Int) * 252 = (at' : Int) := by omega
      obtain ⟨p, hp⟩ : ∃ p, p = off - 252 * k := ⟨_, rfl⟩
      obtain ⟨q, hq⟩ : ∃ q, q = min (off + n - 252 * k) 252 := ⟨_, rfl⟩
      obtain ⟨f, hf⟩ : ∃ f, K - k = f + 1 := ⟨K - k - 1, by omega⟩
      rw [hf] at hrd
      have hbw2 : Below w.heap.size w wr := HW.out.1.trans (hbw.mono (by have := HW.out.2.2; omega))
      have c0 : wr.cell? ⟨w.heap.size, 0, none⟩ = some (.int .i64 (S' : Int)) := (hbw.cell (p := ⟨w.heap.size, 0, none⟩) HW.out.2.2).trans HW.out.2.1
      have hmx : max ((off : Int) - (at' : Int)) 0 = (p : Int) := by omega
      have HO : Hid (Own wr w1.heap.size (.slice va acc.length vc) acc ∧ acc.length ≤ 252 * k ∧ Below w1.heap.size w1 wr) := ⟨hown, hacc, hbw⟩
      by_cases hle2 : q ≤ p
      · rw [rdGo_long _ _ _ _ _ _ _ (by rw [← hp, ← hq]; exact hle2)] at hrd
        have HRR : Hid (R = rdGo M B off n (K - (k + 1)) (k + 1) acc) := (show _ = _ from by rw [show K - (k + 1) = f from by omega]; exact hrd)
        obtain ⟨qi, hqi⟩ : ∃ qi : Int, qi = min ((off : Int) + (n : Int) - (at' : Int)) 252 := ⟨_, rfl⟩
        have hge : qi ≤ (p : Int) := by omega
        have hmn : min ((off : Int) + (n : Int) - (at' : Int)) 252 = qi := hqi.symm
        clear hp hq hrd hown hacc hbw hbw2 hf hat hqi HU HUL
        go_wp2
        go_roundw
        case rel => exact ⟨k + 1, acc, by omega, by go_num, HO.out.1, by have := HO.out.2.1; omega, HO.out.2.2, HRR.out⟩
        case measure => simp [intOf]; omega
      · have hmn : min ((off : Int) + (n : Int) - (at' : Int)) 252 = (q : Int) := by omega
        have hlt2 : ¬ (q : Int) ≤ (p : Int) := by omega
        have hu := HU.out wr k hbw2 hlt
        have hul := HUL.out k hlt
        have hSk : (S' : Int) + (k : Int) = ((S' + k : Nat) : Int) := by omega
        rw [← hSk] at hu
        have hq252 : q ≤ 252 := by omega
        obtain ⟨E, hE⟩ : ∃ E, E = unE M (B + k) := ⟨_, rfl⟩
        obtain ⟨U, hU⟩ : ∃ U, U = unL M (B + k) := ⟨_, rfl⟩
        by_cases hE0 : E = 0
        · rw [rdGo_good _ _ _ _ _ _ _ (by rw [← hp, ← hq]; exact hle2) (by rw [← hE]; exact hE0), ← hU, ← hp, ← hq] at hrd
          rw [← hE, ← hU, hE0] at hu
          rw [← hU] at hul
          have hpl : ((U.drop p).take (q - p)).length = q - p := by rw [List.length_take, List.length_drop, hul]; omega
          have HRR : Hid (R = rdGo M B off n (K - (k + 1)) (k + 1) (acc ++ (U.drop p).take (q - p)) ∧ ((U.drop p).take (q - p)).length = q - p) := ⟨by rw [show K - (k + 1) = f from by omega]; exact hrd, hpl⟩
          have HUC : Hid (Calls Try.prog 50 #[.pointer (some ⟨b, 0, none⟩), .int .i64 ((S' : Int) + (k : Int))] wr fun e w' => ∃ g c, e = .returned (.tuple #[.slice (some ⟨g, 4, none⟩) 252 c, .int .i64 0]) ∧ 252 ≤ c ∧ Hid (Below wr.heap.size wr w' ∧ Bytes w' (some ⟨g, 4 + p, none⟩) ((U.drop p).take (q - p)))) := (by
            refine hu.mono ?_
            rintro e w' ⟨a, n, c, rfl, q1, q2⟩
            obtain ⟨g, rfl, rfl, q3, q4, q5⟩ := q2 rfl
            exact ⟨g, c, rfl, q3, q1, (q5.drop p).take _⟩)
          have hpqN : p < q := by omega
          clear hp hq hrd hown hacc hbw hbw2 hf hat HU HUL hu hul hE hU hE0 hle2 hpl hSk
          go_wp2_with (first
            | (go_at_call 50; refine Calls.mono HUC.out ?_; rintro e w2 ⟨g, c, rfl, hc2, HB2⟩; have hs2 : ∀ wx, (Instr.slice 38 (.slice (some ⟨g, 4, none⟩) 252 c) (some (.int .i64 (p : Int))) (some (.int .i64 (q : Int))) none).run Try.prog wx = .ok (.slice (some ⟨g, 4 + p, none⟩) (q - p) (c - p)) wx := fun wx => slice_two g 252 c p q hpqN (by omega) wx)
            | (at_builtin; refine wpList_append_bytes rfl (.tmp 72) (.tmp 76) rfl w1.heap.size _ acc rfl (keeps_below HB2.out.1 _ _ _ _ _ _ HO.out.1) (some ⟨g, 4 + p, none⟩) ((U.drop p).take (q - p)) (c - p) (by rw [HRR.out.2]; rfl) HB2.out.2 (fun h => by cases h) (by have := HO.out.2.1; rw [HRR.out.2]; omega) (by have := HO.out.2.2.size; have := HB2.out.1.size; omega) ?_; intro v3 w3 ho3 hg3))
          go_roundw
          case rel =>
            refine ⟨k + 1, _, by omega, by go_num, ho3, ?_, ?_, HRR.out.1⟩
            · rw [List.length_append, HRR.out.2]; have := HO.out.2.1; omega
            · exact (HO.out.2.2.trans (HB2.out.1.mono HO.out.2.2.size)).grown hg3 (by have := HO.out.2.2.size; have := HB2.out.1.size; omega) (fun j hj => (owns_lt HO.out.1 j hj).1)
          case measure => simp [intOf]; omega
        · rw [rdGo_bad _ _ _ _ _ _ _ (by rw [← hp, ← hq]; exact hle2) (by rw [← hE]; exact hE0), ← hE] at hrd
          rw [← hE] at hu
          have HUC : Hid (Calls Try.prog 50 #[.pointer (some ⟨b, 0, none⟩), .int .i64 ((S' : Int) + (k : Int))] wr fun e w' => ∃ a n c, e = .returned (.tuple #[.slice a n c, .int .i64 E]) ∧ Hid (Below w.heap.size w w')) := (by
            refine hu.mono ?_
            rintro e w' ⟨a, n, c, rfl, q1, q2⟩
            exact ⟨a, n, c, rfl, hbw2.trans (q1.mono hbw2.size)⟩)
          have hEb : (E != 0) = true := by rw [bne_iff_ne]; exact hE0
          have HRR : Hid (R = (E, [])) := hrd
          clear hp hq hrd hown hacc hbw hbw2 hf hat HU HUL hu hul hE hU hE0 hle2 hSk
          go_wp2_with (go_at_call 50; refine Calls.mono HUC.out ?_; rintro e w2 ⟨a2, n2, c2, rfl, HB2⟩)
          go_ret2
          rw [HRR.out]
          exact ⟨_, rfl, World.ownsRow_nil _ _ _ _, HB2.out⟩
    · obtain rfl : k = K := by omega
      rw [Nat.sub_self] at hrd
      have hki : ¬ (k : Int) < (k : Int) := by omega
      have HO : Hid (Own wr w1.heap.size (.slice va acc.length vc) acc ∧ Below w1.heap.size w1 wr ∧ R = (0, acc)) := ⟨hown, hbw, hrd⟩
      clear hown hacc hbw hrd HU HUL
      go_wp2
      go_ret2
      rw [HO.out.2.2]
      exact ⟨_, rfl, owns_base HO.out.1 (fun j hj => by have := (owns_lt HO.out.1 j hj).1; have := HW.out.2.2; omega), HW.out.1.trans (HO.out.2.1.mono (by have := HW.out.2.2; omega))⟩
end Go.Proofs.Ytpmjkgpmidejoaa
/-
  Package blob's turn with the method value Mark.
-/
namespace Go.Proofs.Ytpmjkgpmidejoaa
open Go.RowKit
open Al (Spc Kep turnB putB)

set_option maxHeartbeats 2000000 in
set_option maxRecDepth 20000 in
theorem turn_mark (w : World) (s : Nat) (L : List Bool) (st sz : Int) (h : Spc w s L) (h1 : st ≤ 9223372036854775807) (h2 : sz ≤ 9223372036854775807) :
    Calls Try.prog 37 #[rv st sz, .func (.func 38) #[.pointer (some ⟨s, 0, none⟩)] #[]] w fun e w' =>
      e = .returned (.int .i64 (if markR L st sz then 0 else 1)) ∧ Spc w' s (markL L st sz) ∧ Kep (fun k => k ≠ s) w w' := by
  have hz : secI sz ≤ 9223372036854775807 ∧ -9223372036854775808 ≤ secI sz := secI_bd sz h2
  by_cases h0 : st = 0 ∧ sz = 0
  · obtain ⟨rfl, rfl⟩ := h0
    have HC : Hid (Spc w s L) := h
    clear h
    go_enter Try.func37, Try.ntmps37
    go_wp2
    go_ret
    exact ⟨rfl, HC.out.below ((Below.refl _ w).alloc (Nat.le_refl _) _), Kep.alloc _ _ _⟩
  · have hr : markR L st sz = turnB L st (secI sz) false := by rw [markR, (by simpa using h0 : (decide (st = 0) && decide (sz = 0)) = false), Bool.false_or]
    have hL : markL L st sz = if turnB L st (secI sz) false then putB L st.toNat (secI sz).toNat true else L := by rw [markL, if_neg h0]
    have hsec := fun w => sectors_any sz w h2
    have hg := Al.mark_any (w.alloc (.cells #[.int .i64 st, .int .i64 sz] 40)).drew s L st (secI sz) ((h.below ((Below.refl _ w).alloc (Nat.le_refl _) _)).kept rfl) h1
    rw [← hr] at hL hg
    rw [← hL] at hg
    obtain ⟨v, hv⟩ : ∃ v : Int, v = (if markR L st sz then 0 else 1) := ⟨_, rfl⟩
    rw [← hv] at hg ⊢
    obtain ⟨k, hk⟩ : ∃ k, k = secI sz := ⟨_, rfl⟩
    rw [← hk] at hsec hg
    have HG : Hid (Calls Try.prog 38 #[.pointer (some ⟨s, 0, none⟩), .int .i64 st, .int .i64 k] (w.alloc (.cells #[.int .i64 st, .int .i64 sz] 40)).drew fun e w' => e = .returned (.int .i64 v) ∧ Spc w' s (markL L st sz) ∧ Kep (fun k => k ≠ s) w w') := hg.mono fun e w' q => ⟨q.1, q.2.1, ((Kep.alloc _ _ _).trans (Kep.drew _ _)).trans q.2.2.1⟩
    have HC : Hid (Spc w s L) := h
    clear hg hr hL hv hk h hz
    have h3 : st ≠ 0 ∨ (st = 0 ∧ sz ≠ 0) := by omega
    rcases h3 with h3 | ⟨rfl, h3⟩
    · go_enter Try.func37, Try.ntmps37
      go_wp2
      go_region_with (first
        | (go_at_call 28; refine Calls.mono (hsec _) ?_; rintro e w1 ⟨rfl, rfl⟩)
        | (go_at_call 38; refine Calls.mono HG.out ?_; rintro e w1 ⟨rfl, q1⟩))
      all_goals
        (go_wp2
         go_ret
         exact ⟨rfl, q1⟩)
    · go_enter Try.func37, Try.ntmps37
      go_wp2
      go_region_with (first
        | (go_at_call 28; refine Calls.mono (hsec _) ?_; rintro e w1 ⟨rfl, rfl⟩)
        | (go_at_call 38; refine Calls.mono HG.out ?_; rintro e w1 ⟨rfl, q1⟩))
      all_goals
        (go_wp2
         go_ret
         exact ⟨rfl, q1⟩)
end Go.Proofs.Ytpmjkgpmidejoaa
