/-
  The document's Write and Read by their contracts.
-/
import Derived.Test.YtecljiefljgfmaaRun07
import Derived.Test.YtecljiefljgfmaaRun05
namespace Go.Proofs.Ytecljiefljgfmaa
open Go.RowKit

theorem refwrite_mem {w w1 w2 w3 : World} {F : Nat → Prop} {d gl cl : Nat} {ca : Option Addr} {cc : Nat} {M : R} {i : Nat} {b : ByteArray} {v' : Value} {n0 : Nat}
    (hV : RV w d (.slice (some ⟨gl, 0, none⟩) M.L.length cl) (.slice ca M.W.length cc) M)
    (hF : ∀ k, RFoot d (.slice (some ⟨gl, 0, none⟩) M.L.length cl) (.slice ca M.W.length cc) k → F k) (hl : ∀ k, F k → k < w.heap.size)
    (h1 : w1 = w.alloc (.cells #[.int .i64 (i : Int), .string b] 106))
    (ho : w2.ownsRow 0 106 2 v' n0 (ccs (M.W ++ [(i, b)]))) (hn0 : n0 = (M.W ++ [(i, b)]).length)
    (hg : w1.grownBy w2 (Value.ownBlock (.slice ca M.W.length cc)))
    (hnew : v'.ownBlock = Value.ownBlock (.slice ca M.W.length cc) ∨ ∀ k, v'.ownBlock = some k → w1.heap.size ≤ k)
    (h3 : w3 = w2.setCell ⟨d, 1, none⟩ v')
    (hok : ({ M with W := M.W ++ [(i, b)] } : R).Ok) :
    RDev w3 (Grow F w w3) d { M with W := M.W ++ [(i, b)] } ∧ Turn F w w3 := by
  subst hn0
  have hs1 : w1.heap.size = w.heap.size + 1 := by rw [h1]; simp
  have hs2 := hg.size
  have hs3 : w3.heap.size = w2.heap.size := by rw [h3]; simp [World.setCell]
  have kd : d < w.heap.size := hl d (hF d (.inl rfl))
  have kl : gl < w.heap.size := hl gl (hF gl (.inr (.inl rfl)))
  have dls := (hV.dl gl rfl)
  have nd : some d ≠ Value.ownBlock (.slice ca M.W.length cc) := fun e => hV.dw d e.symm rfl
  have nl : some gl ≠ Value.ownBlock (.slice ca M.W.length cc) := fun e => dls.2 e.symm
  have k12 : ∀ k, k < w.heap.size → some k ≠ Value.ownBlock (.slice ca M.W.length cc) → w2.heap[k]? = w.heap[k]? := by
    intro k hk hne
    rw [hg.block k (by omega) hne, h1, Below.heap_alloc w _ k hk]
  have k3 : ∀ k, k ≠ d → w3.heap[k]? = w2.heap[k]? := by
    intro k hd
    rw [h3, Below.heap_setCell _ _ _ _ hd]
  have vd : ∀ g, v'.ownBlock = some g → g ≠ d ∧ g ≠ gl := by
    intro g hgv
    rcases hnew with hnew | hnew
    · rw [hnew] at hgv
      exact ⟨hV.dw g hgv, fun e => nl (by rw [← e]; exact hgv.symm)⟩
    · have := hnew g hgv
      omega
  have hT : Turn F w w3 := by
    have t1 : Turn F w w1 := by rw [h1]; exact (Turn.refl F w).alloc _
    have t2 : Turn F w w2 := t1.trans' (Turn.of_grown hg fun k hk => hF k (.inr (.inr hk)))
    rw [h3]
    exact t2.setCell (hF d (.inl rfl)) _
  refine ⟨⟨hok, ?_, .slice (some ⟨gl, 0, none⟩) M.L.length cl, v', ⟨?_, ?_, ?_, ?_, ?_⟩, ?_⟩, hT⟩
  · intro k hk
    rcases hk with hk | hk
    · exact Nat.lt_of_lt_of_le (hl k hk) hT.size
    · exact hk.2
  · rw [h3, set_blk ((k12 d kd nd).trans hV.blk) 1 v']
    rfl
  · refine owns_other hV.lr fun j hj => ?_
    obtain rfl : gl = j := by simpa [Value.ownBlock] using hj
    rw [k3 gl dls.1, k12 gl kl nl]
  · refine owns_other ho fun j hj => ?_
    exact k3 j (vd j hj).1
  · intro g hgv
    obtain rfl : gl = g := by simpa [Value.ownBlock] using hgv
    exact ⟨dls.1, fun e => (vd gl e).2 rfl⟩
  · exact fun g hgv => (vd g hgv).1
  · intro k hk
    rcases hk with hk | hk | hk
    · exact .inl (hF k (.inl hk))
    · exact .inl (hF k (.inr (.inl hk)))
    · rcases hnew with hnew | hnew
      · exact .inl (hF k (.inr (.inr (by rw [← hnew]; exact hk))))
      · right
        have := hnew k hk
        have := (World.ownsRow.lt ho k hk).2
        omega

set_option maxHeartbeats 2000000 in
theorem refwrite_dead (d : Nat) (i : Int) (b : ByteArray) (w : World) (F : Nat → Prop) (M : R) (h : RDev w F d M) (hs : M.dead = true) :
    Calls Try.prog 22 #[.pointer (some ⟨d, 0, none⟩), .int .i64 i, .string b] w fun e w' => e = .returned (.int .i64 50) ∧ w = w' := by
  obtain ⟨gl, cl, ca, cc, hV, _⟩ := h.open
  have c3 := cell_blk hV.blk 3
  simp only [List.getElem?_toArray] at c3
  rw [hs] at c3
  clear hV h hs
  go_enter Try.func22, Try.ntmps22
  go_wp2
  go_ret
  exact ⟨rfl, rfl⟩

set_option maxHeartbeats 2000000 in
theorem refwrite_arg (d : Nat) (i : Int) (b : ByteArray) (w : World) (F : Nat → Prop) (M : R) (h : RDev w F d M) (hs : M.dead = false) (hi : ¬ (0 ≤ i ∧ i < (M.L.length : Int) ∧ b.size = 256)) :
    Calls Try.prog 22 #[.pointer (some ⟨d, 0, none⟩), .int .i64 i, .string b] w fun e w' => e = .returned (.int .i64 1) ∧ w = w' := by
  obtain ⟨gl, cl, ca, cc, hV, _⟩ := h.open
  have c3 := cell_blk hV.blk 3
  have c0 := cell_blk hV.blk 0
  simp only [List.getElem?_toArray] at c3 c0
  rw [hs] at c3
  clear hV h hs
  by_cases h0 : i < 0
  · clear hi
    go_enter Try.func22, Try.ntmps22
    go_wp2
    go_ret
    exact ⟨rfl, rfl⟩
  · by_cases h1 : (M.L.length : Int) ≤ i
    · clear hi
      go_enter Try.func22, Try.ntmps22
      go_wp2
      go_ret
      exact ⟨rfl, rfl⟩
    · have hb : ((b.size : Int) != 256) = true := by
        rw [bne_iff_ne]
        intro e
        exact hi ⟨by omega, by omega, by omega⟩
      clear hi
      go_enter Try.func22, Try.ntmps22
      go_wp2
      go_ret
      exact ⟨rfl, rfl⟩

set_option maxHeartbeats 2000000 in
theorem refwrite_burnt (d : Nat) (i : Nat) (b : ByteArray) (w : World) (F : Nat → Prop) (M : R) (h : RDev w F d M) (hs : M.dead = false) (hi : i < M.L.length) (hb : b.size = 256) (h50 : M.burn.1 = 50) :
    Calls Try.prog 22 #[.pointer (some ⟨d, 0, none⟩), .int .i64 (i : Int), .string b] w fun e w' => e = .returned (.int .i64 50) ∧ RDev w' F d M.burn.2 ∧ Turn F w w' := by
  have hburn := refburn_any d w F M h
  rw [h50] at hburn
  obtain ⟨gl, cl, ca, cc, hV, _⟩ := h.open
  have c3 := cell_blk hV.blk 3
  have c0 := cell_blk hV.blk 0
  simp only [List.getElem?_toArray] at c3 c0
  rw [hs] at c3
  have h1 : ¬ (M.L.length : Int) ≤ (i : Int) := by omega
  have hb' : ((b.size : Int) != 256) = false := by rw [bne_eq_false_iff_eq]; omega
  clear hV h hs hb h50
  go_enter Try.func22, Try.ntmps22
  go_wp2_with fail
  refine hburn.mono ?_
  rintro e w1 ⟨rfl, hD, hT⟩
  go_wp2
  go_ret
  exact ⟨rfl, hD, hT⟩

set_option maxHeartbeats 4000000 in
set_option maxRecDepth 20000 in
theorem refwrite_done (d i : Nat) (b : ByteArray) (w : World) (F : Nat → Prop) (M : R) (h : RDev w F d M) (hs : M.dead = false) (hi : i < M.L.length) (hb : b.size = 256) (h0 : M.burn.1 = 0) (hC : M.W.length ≤ 100000) :
    Calls Try.prog 22 #[.pointer (some ⟨d, 0, none⟩), .int .i64 (i : Int), .string b] w fun e w' => e = .returned (.int .i64 0) ∧ RDev w' (Grow F w w') d (M.wr i b).2 ∧ Turn F w w' := by
  obtain ⟨i0, hi0, hz0, hz1, hz2⟩ := info_parts info106
  have hburn := refburn_any d w F M h
  have hwr : (M.wr (i : Int) b).2 = { M.burn.2 with W := M.W ++ [(i, b)] } := by
    rw [R.wr, if_neg (by rw [hs]; simp), if_neg (fun hn => hn ⟨by omega, by omega, hb⟩), if_neg (by omega)]
    simp
  have hok := h.1.wr (i : Int) b
  rw [hwr] at hok ⊢
  clear hwr
  obtain ⟨e1, e2⟩ := M.burn_L
  rw [← e2] at hok hC ⊢
  rw [h0] at hburn
  obtain ⟨gl, cl, ca, cc, hV, _⟩ := h.open
  have c3 := cell_blk hV.blk 3
  have c0 := cell_blk hV.blk 0
  simp only [List.getElem?_toArray] at c3 c0
  rw [hs] at c3
  have h1 : ¬ (M.L.length : Int) ≤ (i : Int) := by omega
  have hb' : ((b.size : Int) != 256) = false := by rw [bne_eq_false_iff_eq]; omega
  clear hV h hs hb e1 e2 h0
  obtain ⟨N, hN⟩ : ∃ N, N = M.burn.2 := ⟨_, rfl⟩
  rw [← hN] at hburn hok hC ⊢
  have HOK := (show Hid _ from hok)
  clear hN hok
  go_enter Try.func22, Try.ntmps22
  go_wp2_with fail
  refine hburn.mono ?_
  rintro e w1 ⟨rfl, hD, hT⟩
  obtain ⟨gl2, cl2, ca2, cc2, hV2, hF2, _⟩ := hD.open
  have b1 := cell_blk hV2.blk 1
  have f1 := frozen_blk hV2.blk 1
  simp only [List.getElem?_toArray] at b1
  have HT : Hid (Turn F w w1) := hT
  have HD : Hid (RDev w1 F d N) := hD
  have HV := (show Hid _ from hV2)
  have HF := (show Hid _ from hF2)
  have hown := (hV2.wr.alloc (.cells #[.int .i64 (i : Int), .string b] 106))
  clear hburn c3 c0 hT hD hV2 hF2
  have hfacts : ∀ v' w2, w2.ownsRow 0 106 2 v' (N.W.length + 1) (ccs N.W ++ [.int .i64 (i : Int), .string b]) → (w1.alloc (.cells #[.int .i64 (i : Int), .string b] 106)).grownBy w2 (Value.ownBlock (.slice ca2 N.W.length cc2)) →
      (∃ ca3 cc3, v' = .slice ca3 (N.W.length + 1) cc3) ∧ w2.cell? ⟨d, 1, none⟩ = some (.slice ca2 N.W.length cc2) ∧ w2.frozen? ⟨d, 1, none⟩ = false := by
    intro v' w2 ho hg
    have hV := HV.out
    have kd : d < w1.heap.size := HD.out.lt
    have nd : some d ≠ Value.ownBlock (.slice ca2 N.W.length cc2) := fun e => hV.dw d e.symm rfl
    have hd : w2.heap[d]? = w1.heap[d]? := by rw [hg.block d (by simp; omega) nd, Below.heap_alloc _ _ _ kd]
    have bd := hd.trans hV.blk
    refine ⟨?_, cell_blk bd 1, frozen_blk bd 1⟩
    obtain ⟨_, ⟨_, hn⟩ | ⟨g, cap, cur, rfl, _⟩⟩ := ho
    · omega
    · exact ⟨_, _, rfl⟩
  have HFA := (show Hid _ from hfacts)
  clear hfacts
  go_wp2_with (at_builtin; refine wpList_append_own2 rfl _ _ 47 rfl 0 106 i0 (.agg #[.int .i64 0, .string ⟨#[]⟩]) 2 24 Try.underlying47 hi0 hz0 hz1 hz2 rfl (by decide) _ N.W.length (ccs N.W) rfl hown ⟨w1.heap.size, 0, none⟩ 1 1 [.int .i64 (i : Int), .string b] rfl rfl (two_new _ _ _ _) (by intro u hu; simp at hu; rcases hu with rfl | rfl <;> rfl) (by unfold maxLen; omega) (by omega) (Nat.zero_le _) ?_; intro v' w2 ho2 hg2 hn2; obtain ⟨⟨ca3, cc3, rfl⟩, x1, x2⟩ := HFA.out v' w2 ho2 hg2; have HX := (show Hid (w2.ownsRow 0 106 2 (.slice ca3 (N.W.length + 1) cc3) (N.W.length + 1) (ccs N.W ++ [.int .i64 (i : Int), .string b]) ∧ (w1.alloc (.cells #[.int .i64 (i : Int), .string b] 106)).grownBy w2 (Value.ownBlock (.slice ca2 N.W.length cc2)) ∧ (Value.ownBlock (.slice ca3 (N.W.length + 1) cc3) = Value.ownBlock (.slice ca2 N.W.length cc2) ∨ ∀ k, Value.ownBlock (.slice ca3 (N.W.length + 1) cc3) = some k → (w1.alloc (.cells #[.int .i64 (i : Int), .string b] 106)).heap.size ≤ k)) from ⟨ho2, hg2, hn2⟩); clear ho2 hg2 hn2)
  go_ret
  obtain ⟨hD3, hT3⟩ := refwrite_mem (w2 := w2) (w3 := w2.setCell ⟨d, 1, none⟩ (.slice ca3 (N.W.length + 1) cc3)) HV.out HF.out HD.out.2.1 rfl (n0 := N.W.length + 1) (i := i) (b := b) (by rw [ccs_append]; exact HX.out.1) (by simp) HX.out.2.1 HX.out.2.2 rfl HOK.out
  refine ⟨rfl, ?_, HT.out.trans' hT3⟩
  obtain ⟨q1, q2, lv, wv, q3, q4⟩ := hD3
  refine ⟨q1, ?_, lv, wv, q3, ?_⟩
  · intro k hk
    rcases hk with hk | hk
    · exact q2 k (.inl hk)
    · exact hk.2
  · intro k hk
    have hsz := HT.out.size
    rcases q4 k hk with h | h
    · exact .inl h
    · exact .inr ⟨by omega, h.2⟩

theorem refwrite_any (d : Nat) (i : Int) (b : ByteArray) (w : World) (F : Nat → Prop) (M : R) (h : RDev w F d M) (hC : M.W.length ≤ 100000) :
    Calls Try.prog 22 #[.pointer (some ⟨d, 0, none⟩), .int .i64 i, .string b] w fun e w' => e = .returned (.int .i64 (M.wr i b).1) ∧ RDev w' (Grow F w w') d (M.wr i b).2 ∧ Turn F w w' := by
  by_cases hd : M.dead = true
  · have e : M.wr i b = (50, M) := by rw [R.wr, if_pos hd]
    rw [e]
    refine (refwrite_dead d i b w F M h hd).mono ?_
    rintro e w1 ⟨rfl, rfl⟩
    exact ⟨rfl, h.grow, Turn.refl _ _⟩
  · have hdf : M.dead = false := by simpa using hd
    by_cases hi : 0 ≤ i ∧ i < (M.L.length : Int) ∧ b.size = 256
    · obtain ⟨i1, i2, i3⟩ := hi
      obtain ⟨n, rfl⟩ := Int.eq_ofNat_of_zero_le i1
      rcases M.burn_two with h0 | h50
      · have e1 : (M.wr (n : Int) b).1 = 0 := by rw [R.wr, if_neg hd, if_neg (fun hn => hn ⟨i1, i2, i3⟩), if_neg (by omega)]
        rw [e1]
        exact refwrite_done d n b w F M h hdf (by omega) i3 h0 hC
      · have e : M.wr (n : Int) b = M.burn := by rw [R.wr, if_neg hd, if_neg (fun hn => hn ⟨i1, i2, i3⟩), if_pos (by omega)]
        rw [e, h50]
        refine (refwrite_burnt d n b w F M h hdf (by omega) i3 h50).mono ?_
        rintro e w1 ⟨rfl, h1, h2⟩
        exact ⟨rfl, h1.grow, h2⟩
    · have e : M.wr i b = (1, M) := by rw [R.wr, if_neg hd, if_pos hi]
      rw [e]
      refine (refwrite_arg d i b w F M h hdf hi).mono ?_
      rintro e w1 ⟨rfl, rfl⟩
      exact ⟨rfl, h.grow, Turn.refl _ _⟩

/-- What Read tells. -/
def R.rd (M : R) (i : Int) : ByteArray × Int :=
  if M.dead = true then (⟨#[]⟩, 50) else if 0 ≤ i ∧ i < (M.L.length : Int) then ((app M.L M.W).getD i.toNat ⟨#[]⟩, 0) else (⟨#[]⟩, 1)

theorem app_getD_take {L : List ByteArray} {W : List (Nat × ByteArray)} {k i : Nat} (hk : k < W.length) (hi : i < L.length) : (app L (W.take (k + 1))).getD i ⟨#[]⟩ = if (W[k].1 : Int) = (i : Int) then W[k].2 else (app L (W.take k)).getD i ⟨#[]⟩ := by
  rw [app_take hk]
  simp only [List.getD_eq_getElem?_getD]
  split
  · rename_i e
    have : W[k].1 = i := by omega
    rw [this, List.getElem?_set_self (by rw [app_length]; exact hi)]
    rfl
  · rename_i e
    rw [List.getElem?_set_ne (by omega)]

set_option maxHeartbeats 2000000 in
theorem refread_any (d : Nat) (i : Int) (w : World) (F : Nat → Prop) (M : R) (h : RDev w F d M) (hC : M.W.length ≤ 100000) :
    Calls Try.prog 59 #[.pointer (some ⟨d, 0, none⟩), .int .i64 i] w fun e w' => e = .returned (.tuple #[.string (M.rd i).1, .int .i64 (M.rd i).2]) ∧ w = w' := by
  have hok := h.1
  obtain ⟨gl, cl, ca, cc, hV, _⟩ := h.open
  have c3 := cell_blk hV.blk 3
  have c0 := cell_blk hV.blk 0
  have c1 := cell_blk hV.blk 1
  simp only [List.getElem?_toArray] at c3 c0 c1
  by_cases hd : M.dead = true
  · have e : M.rd i = (⟨#[]⟩, 50) := by rw [R.rd, if_pos hd]
    rw [e]
    rw [hd] at c3
    clear hV h hd
    go_enter Try.func59, Try.ntmps59
    go_wp2
    go_ret2
    exact ⟨rfl, rfl⟩
  · have hdf : M.dead = false := by simpa using hd
    rw [hdf] at c3
    by_cases hi : 0 ≤ i ∧ i < (M.L.length : Int)
    · have e : M.rd i = ((app M.L M.W).getD i.toNat ⟨#[]⟩, 0) := by rw [R.rd, if_neg hd, if_pos hi]
      rw [e]
      obtain ⟨i1, i2⟩ := hi
      obtain ⟨n, rfl⟩ := Int.eq_ofNat_of_zero_le i1
      have hn : n < M.L.length := by omega
      have hl : w.cell? ⟨gl, n, none⟩ = some (.string M.L[n]) := owns_cell hV.lr (scs_get hn)
      have h1 : ¬ (M.L.length : Int) ≤ (n : Int) := by omega
      have HV := (show Hid (RV w d (.slice (some ⟨gl, 0, none⟩) M.L.length cl) (.slice ca M.W.length cc) M) from hV)
      have hst : (app M.L (M.W.take 0)).getD n ⟨#[]⟩ = M.L[n] := by simp [app, List.getD_eq_getElem?_getD, List.getElem?_eq_getElem hn]
      have HST := (show Hid _ from hst)
      rw [show ((n : Int)).toNat = n from by omega]
      obtain ⟨s0, hs0⟩ : ∃ s0, s0 = M.L[n] := ⟨_, rfl⟩
      rw [← hs0] at hl HST
      clear hV h hd e hst hs0
      go_enter Try.func59, Try.ntmps59
      go_wp2
      go_loopw [6, 7] (fun s j wr => ∃ k : Nat, k ≤ M.W.length ∧ j = .int .i64 k ∧ s = .string ((app M.L (M.W.take k)).getD n ⟨#[]⟩) ∧ wr = w)
        (fun _ j _ => M.W.length - (intOf j).toNat)
      case atStart => exact ⟨0, Nat.zero_le _, rfl, by rw [HST.out], rfl⟩
      case round =>
        obtain ⟨k, hk, rfl, rfl, rfl⟩ := hrel
        by_cases hlt : k < M.W.length
        · obtain ⟨gc, cc', hce, hcc, _, _⟩ := owns_head HV.out.wr (by omega)
          simp only [Value.slice.injEq] at hce
          obtain ⟨rfl, _, rfl⟩ := hce
          have ha := owns_cell HV.out.wr (ccs_get hlt).1
          have hb := owns_cell HV.out.wr (ccs_get hlt).2
          have hst := app_getD_take (L := M.L) hlt hn
          obtain ⟨s, b, hp⟩ : ∃ s b, M.W[k] = (s, b) := ⟨_, _, rfl⟩
          simp only [hp] at ha hb hst
          have hki : (k : Int) < (M.W.length : Int) := by omega
          have HS2 := (show Hid _ from hst)
          clear hst hp HST hl
          by_cases he : (s : Int) = (n : Int)
          · have he' : ((s : Int) == (n : Int)) = true := by rw [beq_iff_eq]; exact he
            have HE : Hid ((s : Int) = (n : Int)) := he
            clear he
            go_wp2
            go_roundw
            case rel => exact ⟨k + 1, by omega, by go_num, by rw [HS2.out, if_pos HE.out], trivial⟩
            case measure => simp [intOf]; omega
          · have he' : ((s : Int) == (n : Int)) = false := by rw [beq_eq_false_iff_ne]; exact he
            have HE : Hid (¬ (s : Int) = (n : Int)) := he
            clear he
            go_wp2
            go_roundw
            case rel => exact ⟨k + 1, by omega, by go_num, by rw [HS2.out, if_neg HE.out], trivial⟩
            case measure => simp [intOf]; omega
        · obtain rfl : k = M.W.length := by omega
          rw [List.take_length]
          go_wp2
          go_ret2
          exact ⟨rfl, rfl⟩
    · have e : M.rd i = (⟨#[]⟩, 1) := by rw [R.rd, if_neg hd, if_neg hi]
      rw [e]
      clear hV h hd e
      by_cases h0 : i < 0
      · clear hi
        go_enter Try.func59, Try.ntmps59
        go_wp2
        go_ret2
        exact ⟨rfl, rfl⟩
      · have h1 : (M.L.length : Int) ≤ i := by omega
        clear hi
        go_enter Try.func59, Try.ntmps59
        go_wp2
        go_ret2
        exact ⟨rfl, rfl⟩
end Go.Proofs.Ytecljiefljgfmaa
