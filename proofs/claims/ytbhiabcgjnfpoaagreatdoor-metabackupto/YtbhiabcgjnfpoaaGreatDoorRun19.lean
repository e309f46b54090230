/-
  'take' of a reader, by its contract.
-/
import Derived.Test.YtbhiabcgjnfpoaaGreatDoorRun15
namespace Go.Proofs.YtbhiabcgjnfpoaaGreatDoor
open Go.RowKit

theorem strs_tail {w : World} {b off : Nat} {x : ByteArray} {r : List ByteArray} (h : En.Strs w (some ⟨b, off, none⟩) (x :: r)) : En.Strs w (some ⟨b, off + 1, none⟩) r := by
  rcases h with h | ⟨b', o', e, hlt, hc⟩
  · cases h
  · simp only [Option.some.injEq, Addr.mk.injEq] at e
    obtain ⟨rfl, rfl, -⟩ := e
    refine .inr ⟨b, off + 1, rfl, hlt, fun j hj => ?_⟩
    have := hc (j + 1) (by simpa using hj)
    rw [show off + 1 + j = off + (j + 1) by omega]
    exact this

set_option maxRecDepth 20000 in
set_option maxHeartbeats 2000000 in
theorem take100 : Take 100 := by
  refine ⟨fun args w => Tryz.call100 args w, ?_⟩
  intro ki p Bd s f gd vl st w v0 tp hL hR hp hps hpf hnp hsz
  obtain ⟨a, n, c, hf, hst⟩ := hR.bf
  have hs := hR.bs
  have hne := hR.ne
  have cs := cell_blk hs 0
  have fs := frozen_blk hs 0
  have cf := cell_blk hf 0
  have ff := frozen_blk hf 0
  simp only [List.getElem?_toArray] at cs cf
  cases st with
  | none =>
    have HLo : Hid (Bd ≤ w.heap.size) := hR.lo
    have HF : Hid (w.heap[s]? = some (.cells #[.bool false] 4 (0, 0)) ∧ w.heap[f]? = some (.cells #[.slice a n c] 65 (0, 0)) ∧ w.heap[p]? = some (.cells #[v0] tp (0, 0)) ∧ s ≠ f ∧ p ≠ s) := ⟨hs, hf, hp, hne, hps⟩
    simp only [Option.isSome] at cs
    clear hL hR hp hps hpf hnp hsz hf hst hs hne
    go_enter Tryz.func100, Tryz.ntmps100
    go_wp2
    refine bodyPost_end (results_none rfl _ _ _) rfl ⟨rfl, ?_, ?_, (Md.refl _ w).set (.inl (.inl rfl)) _ _⟩
    · exact ⟨HF.out.2.2.2.1, Nat.le_trans HLo.out (by simp [World.setCell]), (set_blk HF.out.1 0 _).trans rfl, a, n, c, (Below.heap_setCell _ _ _ _ HF.out.2.2.2.1.symm).trans HF.out.2.1, fun L h => by cases h⟩
    · exact (Below.heap_setCell _ _ _ _ HF.out.2.2.2.2).trans HF.out.2.2.1
  | some L =>
    obtain ⟨hn, hc, hS, hSb⟩ := hst L rfl
    have HLo : Hid (Bd ≤ w.heap.size) := hR.lo
    cases L with
    | nil =>
      have HF : Hid (w.heap[s]? = some (.cells #[.bool true] 4 (0, 0)) ∧ w.heap[f]? = some (.cells #[.slice a n c] 65 (0, 0)) ∧ w.heap[p]? = some (.cells #[v0] tp (0, 0)) ∧ s ≠ f ∧ p ≠ s) := ⟨hs, hf, hp, hne, hps⟩
      simp only [Option.isSome] at cs
      obtain rfl : n = 0 := hn
      clear hL hR hp hps hpf hnp hsz hf hst hs hne hS hc
      go_enter Tryz.func100, Tryz.ntmps100
      go_wp2
      refine bodyPost_end (results_none rfl _ _ _) rfl ⟨rfl, ?_, ?_, (Md.refl _ w).set (.inl (.inl rfl)) _ _⟩
      · exact ⟨HF.out.2.2.2.1, Nat.le_trans HLo.out (by simp [World.setCell]), (set_blk HF.out.1 0 _).trans rfl, a, 0, c, (Below.heap_setCell _ _ _ _ HF.out.2.2.2.1.symm).trans HF.out.2.1, fun L h => by cases h⟩
      · exact (Below.heap_setCell _ _ _ _ HF.out.2.2.2.2).trans HF.out.2.2.1
    | cons x r =>
      obtain ⟨b, off, rfl, hbl, hcs⟩ := hS.at (k := 0) (by simp)
      have c0 := hcs 0 (by simp)
      simp only [Nat.add_zero, List.getElem_cons_zero] at c0
      have hbs : b ≠ s := strs_not hS (by simp) hs (by simp)
      have hbf : b ≠ f := strs_not hS (by simp) hf (by simp)
      have hbB : b < Bd := hSb b off rfl
      have hbp : b ≠ p := by omega
      have hx : x.size ≤ 8388608 := hsz _ rfl x (by simp)
      obtain ⟨hent, hlook⟩ := hL
      have HK : Hid (Calls Tryz.prog ki #[.string x, .pointer (some ⟨p, 0, none⟩)] w fun e W' => e = .returned (.bool (gd x)) ∧ W' = w.setCell ⟨p, 0, none⟩ (vl x)) := hlook w x ⟨v0, tp, hp⟩ hx
      simp only [Option.isSome] at cs
      obtain ⟨w1, hw1⟩ : ∃ w1, w1 = w.setCell ⟨p, 0, none⟩ (vl x) := ⟨_, rfl⟩
      rw [← hw1] at HK
      have s1 : w1.heap[s]? = some (.cells #[.bool true] 4 (0, 0)) := by rw [hw1, Below.heap_setCell _ _ _ _ hps.symm]; exact hs
      have f1 : w1.heap[f]? = some (.cells #[.slice (some ⟨b, off, none⟩) (r.length + 1) c] 65 (0, 0)) := by rw [hw1, Below.heap_setCell _ _ _ _ hpf.symm, hf, hn]; rfl
      have p1 : w1.heap[p]? = some (.cells #[vl x] tp (0, 0)) := by rw [hw1, set_blk hp 0 _]; rfl
      have m1 : Md (fun b => b = s ∨ b = f ∨ b = p) w w1 := by rw [hw1]; exact (Md.refl _ w).set (.inl (.inr (.inr rfl))) _ _
      have S1 : En.Strs w1 (some ⟨b, off, none⟩) (x :: r) := Strs.md hS m1 (fun b' off' e _ => by
        simp only [Option.some.injEq, Addr.mk.injEq] at e
        obtain ⟨rfl, -, -⟩ := e
        rintro (h | h | h)
        · exact hbs h
        · exact hbf h
        · exact hbp h)
      have cs1 := cell_blk s1 0
      have fs1 := frozen_blk s1 0
      have cf1 := cell_blk f1 0
      have ff1 := frozen_blk f1 0
      simp only [List.getElem?_toArray] at cs1 cf1
      have hsf : ¬ s = f := hne
      have hfs : ¬ f = s := fun e => hne e.symm
      have HF : Hid (w1.heap[s]? = some (.cells #[.bool true] 4 (0, 0)) ∧ w1.heap[f]? = some (.cells #[.slice (some ⟨b, off, none⟩) (r.length + 1) c] 65 (0, 0)) ∧ w1.heap[p]? = some (.cells #[vl x] tp (0, 0)) ∧ s ≠ f ∧ p ≠ s ∧ p ≠ f) := ⟨s1, f1, p1, hne, hps, hpf⟩
      have HM : Hid (Md (fun b => b = s ∨ b = f ∨ b = p) w w1) := m1
      have HS : Hid (En.Strs w1 (some ⟨b, off, none⟩) (x :: r)) := S1
      have HB : Hid (b ≠ s ∧ b ≠ f ∧ b < Bd) := ⟨hbs, hbf, hbB⟩
      have HT : Hid (tkS gd (some (x :: r)) = if gd x then some r else none) := rfl
      have HV : Hid (tkV vl v0 (some (x :: r)) = vl x) := rfl
      have HC : Hid (r.length + 1 ≤ c) := hc
      rw [hn] at cf hf
      simp only [List.length_cons] at cf hf
      clear hR hp hps hpf hnp hsz hf hst hs hne hS hcs hlook hx hw1 s1 f1 p1 m1 S1 hbs hbf hbp hbB hSb hn hc
      generalize gd x = g at *
      generalize tkS gd (some (x :: r)) = S' at *
      generalize tkV vl v0 (some (x :: r)) = V' at *
      cases g
      · go_enter Tryz.func100, Tryz.ntmps100
        go_wp2_with fail
        refine HK.out.mono ?_
        rintro e w2 ⟨rfl, rfl⟩
        clear cs fs cf ff
        go_wp2
        refine bodyPost_end (results_none rfl _ _ _) rfl ⟨rfl, ?_, ?_, HM.out.set (.inl (.inl rfl)) _ _⟩
        · rw [HT.out]
          exact ⟨HF.out.2.2.2.1, Nat.le_trans (Nat.le_trans HLo.out HM.out.size) (by simp [World.setCell]), (set_blk HF.out.1 0 _).trans rfl, _, _, _, (Below.heap_setCell _ _ _ _ HF.out.2.2.2.1.symm).trans HF.out.2.1, fun L h => by cases h⟩
        · rw [HV.out]
          exact (Below.heap_setCell _ _ _ _ HF.out.2.2.2.2.1).trans HF.out.2.2.1
      · by_cases hc1 : c = 1
        · subst hc1
          obtain rfl : r = [] := List.eq_nil_of_length_eq_zero (by have := HC.out; omega)
          go_enter Tryz.func100, Tryz.ntmps100
          go_wp2_with fail
          refine HK.out.mono ?_
          rintro e w2 ⟨rfl, rfl⟩
          clear cs fs cf ff
          go_wp2
          refine bodyPost_end (results_none rfl _ _ _) rfl ⟨rfl, ?_, ?_, (HM.out.set (.inl (.inl rfl)) _ _).set (.inl (.inr (.inl rfl))) _ _⟩
          · rw [HT.out]
            refine ⟨HF.out.2.2.2.1, Nat.le_trans (Nat.le_trans HLo.out HM.out.size) (by simp [World.setCell]), (Below.heap_setCell _ _ _ _ HF.out.2.2.2.1).trans ((set_blk HF.out.1 0 _).trans rfl), _, _, _, (set_blk ((Below.heap_setCell _ _ _ _ HF.out.2.2.2.1.symm).trans HF.out.2.1) 0 _).trans rfl, fun L h => ?_⟩
            simp only [if_true, Option.some.injEq] at h
            subst h
            exact ⟨rfl, by simp, .inl rfl, fun b' off' e => by simp only [Option.some.injEq, Addr.mk.injEq] at e; obtain ⟨rfl, -, -⟩ := e; exact HB.out.2.2⟩
          · rw [HV.out]
            exact (Below.heap_setCell _ _ _ _ HF.out.2.2.2.2.2).trans ((Below.heap_setCell _ _ _ _ HF.out.2.2.2.2.1).trans HF.out.2.2.1)
        · go_enter Tryz.func100, Tryz.ntmps100
          go_wp2_with fail
          refine HK.out.mono ?_
          rintro e w2 ⟨rfl, rfl⟩
          clear cs fs cf ff
          go_wp2
          have HW : Hid (Md (fun b => b = s ∨ b = f) w2 ((w2.setCell ⟨s, 0, none⟩ (.bool true)).setCell ⟨f, 0, none⟩ (.slice (some ⟨b, off + 1, none⟩) r.length (c - 1)))) := ((Md.refl _ w2).set (.inl (.inl rfl)) _ _).set (.inl (.inr rfl)) _ _
          refine bodyPost_end (results_none rfl _ _ _) rfl ⟨rfl, ?_, ?_, (HM.out.set (.inl (.inl rfl)) _ _).set (.inl (.inr (.inl rfl))) _ _⟩
          · rw [HT.out]
            refine ⟨HF.out.2.2.2.1, Nat.le_trans (Nat.le_trans HLo.out HM.out.size) (by simp [World.setCell]), (Below.heap_setCell _ _ _ _ HF.out.2.2.2.1).trans ((set_blk HF.out.1 0 _).trans rfl), _, _, _, (set_blk ((Below.heap_setCell _ _ _ _ HF.out.2.2.2.1.symm).trans HF.out.2.1) 0 _).trans rfl, fun L h => ?_⟩
            simp only [if_true, Option.some.injEq] at h
            subst h
            refine ⟨rfl, by have := HC.out; omega, Strs.md (strs_tail HS.out) HW.out ?_, fun b' off' e => by simp only [Option.some.injEq, Addr.mk.injEq] at e; obtain ⟨rfl, -, -⟩ := e; exact HB.out.2.2⟩
            intro b' off' e _
            simp only [Option.some.injEq, Addr.mk.injEq] at e
            obtain ⟨rfl, -, -⟩ := e
            rintro (h | h)
            · exact HB.out.1 h
            · exact HB.out.2.1 h
          · rw [HV.out]
            exact (Below.heap_setCell _ _ _ _ HF.out.2.2.2.2.2).trans ((Below.heap_setCell _ _ _ _ HF.out.2.2.2.2.1).trans HF.out.2.2.1)
end Go.Proofs.YtbhiabcgjnfpoaaGreatDoor
/-
  What Pack wrote, Unpack reads: as lists.
-/
namespace Go.Proofs.YtbhiabcgjnfpoaaGreatDoor.En

theorem vl_be (n : Nat) (x : List UInt8) (hn : n < 4294967296) : vl (be n 4 ++ x) 4 = n := by
  simp [vl, be]
  omega
theorem pack_cons (s : ByteArray) (M : List ByteArray) : packL (s :: M) = be s.size 4 ++ (s.data.toList ++ packL M) := by
  show packOne s ++ packL M = _
  rw [packOne, List.append_assoc]
theorem unp_pack : ∀ L : List ByteArray, (∀ s ∈ L, s.size < 4294967296) → unp ((packL L).length + 1) (packL L) = some L
  | [], _ => unp_nil rfl
  | s :: M, h => by
    have hs := h s (by simp)
    have ih := unp_pack M fun x hx => h x (by simp [hx])
    have hv : vl (packL (s :: M)) 4 = s.size := by rw [pack_cons]; exact vl_be _ _ hs
    have hl : (packL (s :: M)).length = 4 + s.size + (packL M).length := by rw [packL_length, packL_length, tot]
    have hd4 : (packL (s :: M)).drop 4 = s.data.toList ++ packL M := by
      rw [pack_cons]
      exact List.drop_left' (be_length _ 4)
    have hsz : s.data.toList.length = s.size := by simp
    have hd : (packL (s :: M)).drop (4 + vl (packL (s :: M)) 4) = packL M := by
      rw [hv, ← List.drop_drop, hd4]
      exact List.drop_left' hsz
    have hp : piece (packL (s :: M)) = s := by
      rw [piece, hv, hd4, List.take_left' hsz]
    rw [unp_step (by omega) (by omega), hd, hp, ih]
    rfl
theorem uL_pack {L : List ByteArray} (h : ∀ s ∈ L, s.size < 4294967296) : uL (packL L) = L ∧ uOk (packL L) = true := by
  rw [uL, uOk, unp_pack L h]
  exact ⟨rfl, rfl⟩
theorem tot_mem {L : List ByteArray} {s : ByteArray} (h : s ∈ L) : s.size ≤ tot L := by
  induction L with
  | nil => simp at h
  | cons a r ih =>
    simp only [List.mem_cons] at h
    rw [tot]
    rcases h with rfl | h
    · omega
    · have := ih h
      omega
end Go.Proofs.YtbhiabcgjnfpoaaGreatDoor.En
