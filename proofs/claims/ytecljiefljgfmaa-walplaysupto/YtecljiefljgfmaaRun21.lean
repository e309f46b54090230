/-
  Append by its contract.
-/
import Derived.Test.YtecljiefljgfmaaLay
import Derived.Test.YtecljiefljgfmaaRun12
import Derived.Test.YtecljiefljgfmaaRefSave
import Derived.Test.YtecljiefljgfmaaRun16
namespace Go.Proofs.Ytecljiefljgfmaa
open Go.RowKit

theorem Strs.turn {w w' : World} {F : Nat → Prop} {a : Option Addr} {L : List ByteArray} (h : Strs w a L) (ht : Turn F w w') (hF : L ≠ [] → ∀ ad, a = some ad → ¬ F ad.block) : Strs w' a L := by
  by_cases hn : L = []
  · exact .inl hn
  rcases h with h0 | ⟨b, off, rfl, hb', hc⟩
  · exact .inl h0
  · refine .inr ⟨b, off, rfl, by have := ht.size; omega, fun j hj => ?_⟩
    exact (World.cell?_of_block (w := w) (a := ⟨b, off + j, none⟩) (ht.block b hb' (hF hn ⟨b, off, none⟩ rfl))).trans (hc j hj)

/-- What Append does to a device and a log. -/
def apF (M : D) (g : G) (L : List ByteArray) : Int × D × G :=
  if g.fl then (50, M, g)
  else if g.fin - g.at' < needN L then (60, M, g)
  else if (layF M g (padB g L) (needN L)).1 ≠ 0 then ((layF M g (padB g L) (needN L)).1, (layF M g (padB g L) (needN L)).2, { g with fl := true })
  else (0, (layF M g (padB g L) (needN L)).2, g.pass L)

theorem need_pos (L : List ByteArray) : 1 ≤ needN L := by unfold needN sect; omega

set_option maxHeartbeats 4000000 in
set_option maxRecDepth 100000 in
theorem append_any (l d : Nat) (g : G) (a : Option Addr) (L : List ByteArray) (cap : Nat) (w : World) (F : Nat → Prop) (M : D) (h : Dev w F d M) (hL : LogV w l d g) (hok : g.Ok) (hlF : ¬ F l) (hs : Strs w a L) (hsF : L ≠ [] → ∀ ad, a = some ad → ¬ F ad.block) (hr : tot L ≤ 140737488355328) (hC : M.C.length ≤ 80000) :
    Calls Try.prog 15 #[.pointer (some ⟨l, 0, none⟩), .slice a L.length cap] w fun e w' => e = .returned (.int .i64 (apF M g L).1) ∧ Dev w' (Grow F w w') d (apF M g L).2.1 ∧ LogV w' l d (apF M g L).2.2 ∧ Turn (fun k => F k ∨ k = l) w w' := by
  have c5 : w.cell? ⟨l, 5, none⟩ = some (.bool g.fl) := cell_blk hL 5
  by_cases hfl : g.fl = true
  · rw [hfl] at c5
    have HE : Hid (apF M g L = (50, M, g)) := (show _ = _ from by rw [apF, if_pos hfl])
    have HR : Hid (Dev w (Grow F w w) d M ∧ LogV w l d g) := ⟨h.grow, hL⟩
    clear h hL hok hs hsF hlF hfl
    go_enter Try.func15, Try.ntmps15
    go_wp2
    go_ret
    rw [HE.out]
    exact ⟨rfl, HR.out.1, HR.out.2, Turn.refl _ _⟩
  · have hflf : g.fl = false := by simpa using hfl
    rw [hflf] at c5
    have hrm := room_any l d g w hL hok
    have hne := need_any a L cap w.drew hr hs
    obtain ⟨rm, hrmE⟩ : ∃ rm, rm = g.fin - g.at' := ⟨_, rfl⟩
    obtain ⟨n, hnE⟩ : ∃ n, n = needN L := ⟨_, rfl⟩
    rw [← hrmE] at hrm
    rw [← hnE] at hne
    by_cases hful : rm < n
    · have HE : Hid (apF M g L = (60, M, g)) := (show _ = _ from by rw [apF, if_neg hfl, if_pos (by omega)])
      have HR : Hid (Dev w.drew (Grow F w w.drew) d M ∧ LogV w.drew l d g ∧ Turn (fun k => F k ∨ k = l) w w.drew) := ⟨(h.below (w' := w.drew) ((Below.refl _ _).drew)).grow, hL, (Turn.refl _ _).drew⟩
      have hi : (rm : Int) < (n : Int) := by omega
      clear h hL hok hs hsF hlF hfl hflf hful hrmE hnE
      go_enter Try.func15, Try.ntmps15
      go_wp2_with (first | (go_at_call 26; refine Calls.mono hrm ?_; rintro e w1 ⟨rfl, rfl⟩) | (go_at_call 17; refine Calls.mono hne ?_; rintro e w1 ⟨rfl, rfl⟩))
      go_ret
      rw [HE.out]
      exact ⟨rfl, HR.out.1, HR.out.2.1, HR.out.2.2⟩
    · have hn4 : needN L ≤ 4096 := by have := hok.top; omega
      have hse := seal_any l d g a L cap w.drew hL hok hs hn4
      have hltl : l < w.heap.size := (Array.getElem?_eq_some_iff.1 hL).1
      obtain ⟨R, hR⟩ : ∃ R, R = layF M g (padB g L) (needN L) := ⟨_, rfl⟩
      have HLA : Hid (∀ w1 b, w1.heap[b]? = some (.cells (bcs (padB g L)).toArray 5 (0, 0)) → w.heap.size ≤ b → Below w.heap.size w w1 →
          Calls Try.prog 47 #[.pointer (some ⟨l, 0, none⟩), .slice (some ⟨b, 0, none⟩) (256 * needN L) (256 * needN L)] w1 fun e w' => e = .returned (.int .i64 R.1) ∧ Dev w' (Grow F w w') d R.2 ∧ LogV w' l d g ∧ Turn F w w') := (by
        intro w1 b hrow hbge hb1
        have hlts := h.lts
        have hla := lay_any l d g b (needN L) (padB g L) w1 F M (h.below hb1) ((hb1.block l hltl).trans hL) hok hlF (bytes_row hrow) (padB_length g L) (need_pos L) (by omega) (fun hf => by have := hlts _ hf; omega) hC
        rw [← hR] at hla
        refine Calls.mono hla ?_
        rintro e w2 ⟨rfl, hD2, hT2⟩
        have hTT : Turn F w w2 := Turn.from_below hb1 hT2
        refine ⟨rfl, hD2.wider ?_ ?_, (hTT.block l hltl hlF).trans hL, hTT⟩
        · intro k hk
          rcases hk with hk | hk
          · exact .inl hk
          · exact .inr ⟨Nat.le_trans hb1.size hk.1, hk.2⟩
        · intro k hk
          rcases hk with hk | hk
          · have := hlts k hk; have := hTT.size; omega
          · exact hk.2)
      have HE : Hid (apF M g L = if R.1 ≠ 0 then (R.1, R.2, { g with fl := true }) else (0, R.2, g.pass L)) := (show _ = _ from by rw [apF, if_neg hfl, if_neg (by omega), ← hR])
      have HPS : Hid (∀ w2, LogV w2 l d g → Turn F w w2 → Calls Try.prog 43 #[.pointer (some ⟨l, 0, none⟩), .slice a L.length cap] w2 fun e w' => e = .returned (.tuple #[]) ∧ LogV w' l d (g.pass L) ∧ Turn (fun k => k = l) w2 w') := fun w2 h2 ht2 => pass_any l d g a L cap w2 h2 hok hr (hs.turn ht2 hsF)
      have HEN : Hid (∀ w2 w3 N', Dev w2 (Grow F w w2) d N' → Turn F w w2 → Turn (fun k => k = l) w2 w3 → Dev w3 (Grow F w w3) d N' ∧ Turn (fun k => F k ∨ k = l) w w3) := (by
        intro w2 w3 N' q1 q2 q3
        have hlts := h.lts
        refine ⟨(q1.other q3 ?_).wider ?_ ?_, (q2.mono (fun _ => Or.inl)).trans' (q3.mono (fun _ => Or.inr))⟩
        · rintro k hk rfl
          rcases hk with hk | hk
          · exact hlF hk
          · omega
        · intro k hk
          rcases hk with hk | hk
          · exact .inl hk
          · exact .inr ⟨hk.1, Nat.lt_of_lt_of_le hk.2 q3.size⟩
        · intro k hk
          rcases hk with hk | hk
          · have := hlts k hk; have := q2.size; have := q3.size; omega
          · exact hk.2)
      have hnp := need_pos L
      rw [← hnE] at hnp hse HLA hn4
      have hi : (n : Int) ≤ (rm : Int) := by omega
      obtain ⟨E, N⟩ := R
      clear h hL hok hs hsF hlF hfl hflf hful hrmE hR hltl hnE
      go_enter Try.func15, Try.ntmps15
      go_upto_region 5 with (first | (go_at_call 26; refine Calls.mono hrm ?_; rintro e w1 ⟨rfl, rfl⟩) | (go_at_call 17; refine Calls.mono hne ?_; rintro e w1 ⟨rfl, rfl⟩))
      by_cases h0 : E = 0
      · subst h0
        go_upto_region 9 with (first
          | (go_at_call 48; refine Calls.mono hse ?_; rintro e w1 ⟨b, rfl, hrow, hbb, hb1⟩; have hla := HLA.out w1 b hrow hbb (((Below.refl _ w).drew).trans hb1); clear hrow hbb hb1)
          | (go_at_call 47; refine Calls.mono hla ?_; rintro e w2 ⟨rfl, hD2, hL2, hT2⟩))
        have hps := HPS.out w2 hL2 hT2
        have HD2 : Hid (Dev w2 (Grow F w w2) d N ∧ Turn F w w2) := ⟨hD2, hT2⟩
        clear hD2 hT2 hL2 hla
        go_wp2_with (go_at_call 43; refine Calls.mono hps ?_; rintro e w3 ⟨rfl, hL3, hT3⟩)
        go_ret
        rw [HE.out]
        obtain ⟨r1, r2⟩ := HEN.out _ _ _ HD2.out.1 HD2.out.2 hT3
        exact ⟨rfl, r1, hL3, r2⟩
      · have hb0 : (E != 0) = true := by rw [bne_iff_ne]; exact h0
        have HE2 : Hid (apF M g L = (E, N, { g with fl := true })) := (show _ = _ from by rw [HE.out, if_pos h0])
        clear h0
        go_upto_region 7 with (first
          | (go_at_call 48; refine Calls.mono hse ?_; rintro e w1 ⟨b, rfl, hrow, hbb, hb1⟩; have hla := HLA.out w1 b hrow hbb (((Below.refl _ w).drew).trans hb1); clear hrow hbb hb1)
          | (go_at_call 47; refine Calls.mono hla ?_; rintro e w2 ⟨rfl, hD2, hL2, hT2⟩))
        have e5 : w2.cell? ⟨l, 5, none⟩ = some (.bool g.fl) := cell_blk hL2 5
        have f5 := frozen_blk hL2 5
        have HD2 : Hid (Dev w2 (Grow F w w2) d N ∧ LogV w2 l d g ∧ Turn F w w2) := ⟨hD2, hL2, hT2⟩
        clear hD2 hT2 hL2 hla
        go_wp2
        go_ret
        rw [HE2.out]
        obtain ⟨r1, r2⟩ := HEN.out _ _ _ HD2.out.1 HD2.out.2.2 ((Turn.refl (fun k => k = l) w2).setCell (p := ⟨l, 5, none⟩) rfl (.bool true))
        exact ⟨rfl, r1, (set_blk HD2.out.2.1 5 _).trans (by simp), r2⟩
end Go.Proofs.Ytecljiefljgfmaa
/-
  The document's frame is the code's; a sector of noughts; how the document lays a frame.
-/
namespace Go.Proofs.Ytecljiefljgfmaa
open Go.RowKit

theorem be_add (a c : Nat) : be (a * 4294967296 + c) 4 = be c 4 := by
  have f : ∀ x y : Nat, x % 256 = y % 256 → UInt8.ofNat x = UInt8.ofNat y := fun x y h => by
    apply UInt8.toNat_inj.1
    rw [UInt8.toNat_ofNat', UInt8.toNat_ofNat']
    exact h
  simp only [be]
  rw [f ((a * 4294967296 + c) / 2 ^ (8 * 3)) (c / 2 ^ (8 * 3)) (by omega), f ((a * 4294967296 + c) / 2 ^ (8 * 2)) (c / 2 ^ (8 * 2)) (by omega), f ((a * 4294967296 + c) / 2 ^ (8 * 1)) (c / 2 ^ (8 * 1)) (by omega), f ((a * 4294967296 + c) / 2 ^ (8 * 0)) (c / 2 ^ (8 * 0)) (by omega)]
theorem dFrame_code (g : G) (L : List ByteArray) : dFrame g.ep g.nx (packL L) = frameB g L := by
  have h1 : dTail g.ep g.nx (packL L) = bodyL g L := rfl
  rw [dFrame, frameB, h1, packL_length, leadN, be_8, be_add]
  have hc := crcN_lt (bodyL g L)
  rw [show (tot L * 4294967296 + crcN (bodyL g L)) / 4294967296 = tot L from by omega]
theorem padTo_code (g : G) (L : List ByteArray) : padTo (frameB g L) = padB g L := by
  rw [padTo, padB, frameB_length, needN]

set_option maxHeartbeats 2000000 in
set_option maxRecDepth 20000 in
theorem part_nil (w : World) :
    Calls Try.prog 51 #[.slice none 0 0, .int .i64 0] w fun e w' => e = .returned (.string zsec) ∧ Below w.heap.size w w' := by
  have HG : Hid (∀ j (_ : j < 256), (List.replicate 256 (0 : UInt8)).take (j + 1) = (List.replicate 256 (0 : UInt8)).take j ++ [0]) := (by
    intro j hj
    rw [List.take_succ_eq_append_getElem (by rw [List.length_replicate]; exact hj), List.getElem_replicate])
  have HFL : Hid ((List.replicate 256 (0 : UInt8)).length = 256) := (show _ = _ from List.length_replicate)
  obtain ⟨X, hX⟩ : ∃ X, X = List.replicate 256 (0 : UInt8) := ⟨_, rfl⟩
  rw [show zsec = ⟨X.toArray⟩ from by rw [hX]; rfl]
  rw [← hX] at HG HFL
  clear hX
  go_enter Try.func51, Try.ntmps51
  go_wp2
  go_loopw [5, 6] (fun v kv wr => ∃ j : Nat, j ≤ 256 ∧ kv = .int .i64 (j : Int) ∧ Own wr w.heap.size v (X.take j) ∧ Below w.heap.size w wr) (fun _ kv _ => 256 - (intOf kv).toNat)
  case atStart => exact ⟨0, by omega, rfl, by rw [List.take_zero]; exact World.ownsRow_nil _ _ _ _, Below.refl _ _⟩
  case round =>
    obtain ⟨j, hj, rfl, hown, hbw⟩ := hrel
    have hlen : (X.take j).length = j := by rw [List.length_take, HFL.out]; omega
    by_cases hlt : j < 256
    · have hg := HG.out j hlt
      have ht1 : (j : Int) < 256 := by omega
      have htbi : ¬ (j : Int) < 0 := by omega
      have hbA : Below wr.heap.size wr (wr.alloc (.cells #[.int .u8 0] 5)) := (Below.refl _ _).alloc (Nat.le_refl _) _
      have hoA : Own (wr.alloc (.cells #[.int .u8 0] 5)) w.heap.size u5 (X.take j) := keeps_below (w := wr) hbA _ _ _ _ _ _ hown
      have hbyA : Bytes (wr.alloc (.cells #[.int .u8 0] 5)) (some ⟨wr.heap.size, 0, none⟩) [0] := bytes_row (by simpa [bcs] using heap_alloc_new wr (.cells #[.int .u8 0] 5))
      have hBA : Below w.heap.size w (wr.alloc (.cells #[.int .u8 0] 5)) := hbw.trans (hbA.mono hbw.size)
      have HOA : Hid (Own (wr.alloc (.cells #[.int .u8 0] 5)) w.heap.size u5 (X.take j) ∧ Bytes (wr.alloc (.cells #[.int .u8 0] 5)) (some ⟨wr.heap.size, 0, none⟩) [0] ∧ Below w.heap.size w (wr.alloc (.cells #[.int .u8 0] 5)) ∧ ∀ z, u5.ownBlock = some z → w.heap.size ≤ z) := ⟨hoA, hbyA, hBA, fun z hz => (owns_lt hown z hz).1⟩
      have HGG : Hid (X.take (j + 1) = X.take j ++ [0]) := hg
      clear hown hbw hbA hoA hbyA hBA hg
      go_wp2_with (at_builtin; refine wpList_append_bytes rfl (.tmp 27) (.tmp 28) rfl w.heap.size _ (X.take j) rfl HOA.out.1 (some ⟨wr.heap.size, 0, none⟩) [0] 1 rfl HOA.out.2.1 (fun h => by cases h) (by rw [hlen]; simp; omega) HOA.out.2.2.1.size ?_; intro v3 w3 ho3 hg3)
      go_roundw
      case rel => exact ⟨j + 1, by omega, by go_num, by rw [HGG.out]; exact ho3, HOA.out.2.2.1.grown hg3 HOA.out.2.2.1.size HOA.out.2.2.2⟩
      case measure => simp [intOf]; omega
    · obtain rfl : j = 256 := by omega
      rw [List.take_of_length_le (by rw [HFL.out]; exact Nat.le_refl _)] at hown
      obtain ⟨ao, co, rfl, hby, _⟩ := hown.open
      have hcv := convert_bytes wr ao co X hby
      rw [HFL.out] at hcv ⊢
      clear hown hby
      go_wp2
      go_ret
      exact ⟨rfl, hbw⟩

/-- How the document lays a frame. -/
def rlayF (N : R) (g : G) (P : List UInt8) (n : Nat) : Int × R :=
  if (rwrsF N (g.at' + 1) (behind P n (decide (n < g.fin - g.at')))).1 ≠ 0 then rwrsF N (g.at' + 1) (behind P n (decide (n < g.fin - g.at')))
  else rwrsF (rwrsF N (g.at' + 1) (behind P n (decide (n < g.fin - g.at')))).2 g.at' [fsecB P 0]
theorem sim_lay {M : D} {N : R} (g : G) (P : List UInt8) (n : Nat) (h : Sim M N) (hok : M.Ok) : (layF M g P n).1 = (rlayF N g P n).1 ∧ Sim (layF M g P n).2 (rlayF N g P n).2 ∧ (layF M g P n).2.Ok := by
  obtain ⟨e, h2, hok2⟩ := sim_wrsF (behind P n (decide (n < g.fin - g.at'))) (g.at' + 1) h hok
  rw [layF, rlayF]
  by_cases h0 : (wrsF M (g.at' + 1) (behind P n (decide (n < g.fin - g.at')))).1 = 0
  · rw [if_neg (by simp [h0]), if_neg (by rw [← e]; simp [h0])]
    exact sim_wrsF _ _ h2 hok2
  · rw [if_pos h0, if_pos (by rw [← e]; exact h0)]
    exact ⟨e, h2, hok2⟩

/-- Writes one behind the other, parted. -/
theorem rwrs_append : ∀ (xs ys : List ByteArray) (N : R) (p : Nat), rwrs N p (xs ++ ys) = if (rwrs N p xs).1 ≠ 0 then rwrs N p xs else rwrs (rwrs N p xs).2 (p + xs.length) ys
  | [], ys, N, p => by simp [rwrs]
  | x :: xs, ys, N, p => by
    rw [List.cons_append, rwrs, rwrs]
    by_cases h0 : (N.wr (p : Int) x).1 = 0
    · simp only [h0, ne_eq, not_true_eq_false, if_false]
      rw [rwrs_append xs ys, List.length_cons, show p + 1 + xs.length = p + (xs.length + 1) from by omega]
    · simp only [ne_eq, h0, not_false_eq_true, if_true]
end Go.Proofs.Ytecljiefljgfmaa
