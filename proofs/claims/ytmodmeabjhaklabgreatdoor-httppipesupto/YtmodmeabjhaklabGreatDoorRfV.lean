/-
  The document's body in chunks.
-/
import Derived.Test.YtmodmeabjhaklabGreatDoorRunI
import Derived.Test.YtmodmeabjhaklabGreatDoorRunA
import Derived.Lib.AppendStr
import Derived.Deep.RegionHeld3
import Derived.Deep.RegionLaw
namespace Go.Proofs.YtmodmeabjhaklabGreatDoor
open Go.RowKit

theorem strCells_bcs (x : List UInt8) : Lib.strCells ⟨x.toArray⟩ = bcs x := by simp [Lib.strCells, bcs]
theorem step_append_str {P : Program} {w : World} {ops : Array Oper} {o : Oper} {a : Act} {K : Act → World → Prop} {Q : Exit → Act → World → Prop} {E : Prop} (hgd : o.guard = none) (sl x : Operand) (t u : TypeId)
    (ho : o.op = .call { callee := .builtin .append, args := #[sl, x], argTypes := #[t, u] })
    (base : Nat) (e : TypeId) (i : TypeInfo) (ht : P.underlying t = some (.slice e)) (hu : P.underlying u = some .string) (hi : P.info? e = some i) (hz : i.zero = some (.int .u8 0))
    (hsize : i.size = 1) (hby : i.bytes = 1)
    (v : Value) (n : Nat) (xs : List Value) (hs : a.eval sl = v) (hown : w.ownsRow base e 1 v n xs) (s : ByteArray) (hx : a.eval x = .string s)
    (h63 : n + s.size ≤ maxLen) (hbytes : n + s.size ≤ 140737488355328) (hbase : base ≤ w.heap.size)
    (h : ∀ v' w', w'.ownsRow base e 1 v' (n + s.size) (xs ++ Lib.strCells s) → w.grownBy w' v.ownBlock → K (a.put o.dst v') w') :
    if Region.wanted o (yielded ops a.tmps) = true then Oper.wp P o a w K Q else E := by
  have hw : Region.wanted o (yielded ops a.tmps) = true := by simp [Region.wanted, hgd]
  rw [if_pos hw]
  obtain ⟨v', w', hr, h2, h3, -⟩ := Lib.run_append_own_string (P := P) (w := w) base t u o.type e i ht hu hi hz hsize hby v n xs hown s h63 hbytes hbase
  unfold Oper.wp execOp
  simp only [ho, resolve, invoke, builtin, Sem.run_bind, Sem.run_pure, Result.andThen_ok, List.map_toArray, List.map_cons, List.map_nil, hs, hx, hr]
  exact h v' w' h2 h3

theorem step4_moreR {l : List UInt8} {s : St} (h : lnL 256 257 (l.drop s.at_) = .more) : stepF l 4 s = .fin .more := by rw [stepF, h]
theorem step4_longR {l : List UInt8} {s : St} (h : lnL 256 257 (l.drop s.at_) = .long) : stepF l 4 s = .fin (.bad 308) := by rw [stepF, h]
theorem step4_noneR {l x : List UInt8} {s : St} (h : lnL 256 257 (l.drop s.at_) = .ok x) (hc : chkL x = none) : stepF l 4 s = .fin (.bad 308) := by rw [stepF, h]; dsimp only; rw [hc]
theorem step4_bigR {l x : List UInt8} {s : St} {n : Nat} (h : lnL 256 257 (l.drop s.at_) = .ok x) (hc : chkL x = some n) (hb : 1048576 < s.sum + n) : stepF l 4 s = .fin (.bad 324) := by rw [stepF, h]; dsimp only; rw [hc]; dsimp only; rw [if_pos hb]
theorem step4_lastR {l x : List UInt8} {s : St} (h : lnL 256 257 (l.drop s.at_) = .ok x) (hc : chkL x = some 0) (hb : ¬ 1048576 < s.sum + 0) : stepF l 4 s = .go 6 { s with at_ := s.at_ + (x.length + 2) } := by rw [stepF, h]; dsimp only; rw [hc]; dsimp only; rw [if_neg hb, if_pos rfl]
theorem step4_nextR {l x : List UInt8} {s : St} {n : Nat} (h : lnL 256 257 (l.drop s.at_) = .ok x) (hc : chkL x = some n) (hb : ¬ 1048576 < s.sum + n) (hn : n ≠ 0) : stepF l 4 s = .go 5 { s with at_ := s.at_ + (x.length + 2), size := n } := by rw [stepF, h]; dsimp only; rw [hc]; dsimp only; rw [if_neg hb, if_neg hn]
theorem step5_more1R {l : List UInt8} {s : St} (h : l.length ≤ s.at_ + s.size) : stepF l 5 s = .fin .more := by
  rw [stepF]
  by_cases h1 : l.length - s.at_ < s.size
  · rw [if_pos h1]
  · rw [if_neg h1]
    dsimp only
    rw [List.drop_eq_nil_of_le h]
    rfl
theorem drop_one {l : List UInt8} {k : Nat} (h : l.length = k + 1) : l.drop k = [l[k]] := by
  rw [List.drop_eq_getElem_cons (by omega), List.drop_eq_nil_of_le (by omega)]
theorem step5_bad1R {l : List UInt8} {s : St} (h : s.at_ + s.size < l.length) (hc : l[s.at_ + s.size] ≠ 13) : stepF l 5 s = .fin (.bad 308) := by
  rw [stepF, if_neg (by omega)]
  dsimp only
  rw [if_pos]
  rw [List.drop_eq_getElem_cons h, List.take_succ_cons]
  generalize l[s.at_ + s.size] = c at hc
  simp [List.isPrefixOf, hc]
theorem step5_more2R {l : List UInt8} {s : St} (h : l.length = s.at_ + s.size + 1) (hc : l[s.at_ + s.size] = 13) : stepF l 5 s = .fin .more := by
  rw [stepF, if_neg (by omega)]
  dsimp only
  rw [drop_one h, hc]
  rfl
theorem step5_bad2R {l : List UInt8} {s : St} (h : s.at_ + s.size + 1 < l.length) (hc : l[s.at_ + s.size] = 13) (hd : l[s.at_ + s.size + 1] ≠ 10) : stepF l 5 s = .fin (.bad 308) := by
  rw [stepF, if_neg (by omega)]
  dsimp only
  rw [if_pos]
  rw [drop_two h, hc]
  generalize l[s.at_ + s.size + 1] = d at hd
  simp [List.isPrefixOf, hd]
theorem step5_goR {l : List UInt8} {s : St} (h : s.at_ + s.size + 1 < l.length) (hc : l[s.at_ + s.size] = 13) (hd : l[s.at_ + s.size + 1] = 10) : stepF l 5 s = .go 4 { takeL l s with at_ := s.at_ + s.size + 2 } := by
  rw [stepF, if_neg (by omega)]
  dsimp only
  have e : (l.drop (s.at_ + s.size)).take 2 = [13, 10] := by rw [drop_two h, hc, hd]; rfl
  rw [e, if_neg (by decide), if_neg (by simp)]
/-- What tells no request. -/
def Fail (T : Tld) : Prop := T = .more ∨ ∃ x, x ≠ 0 ∧ T = .bad x
theorem fld_fail {l : List UInt8} {s : St} {t : Tld} (hf : fldL l s = .fin t) : Fail t := by
  unfold fldL at hf
  split at hf
  · simp only [Fl.fin.injEq] at hf; exact .inl hf.symm
  · simp only [Fl.fin.injEq] at hf; exact .inr ⟨339, by decide, hf.symm⟩
  · split at hf
    · cases hf
    · split at hf
      · simp only [Fl.fin.injEq] at hf; exact .inr ⟨339, by decide, hf.symm⟩
      · split at hf
        · simp only [Fl.fin.injEq] at hf; exact .inr ⟨308, by decide, hf.symm⟩
        · cases hf
theorem fld_keepR {l : List UInt8} {s s' : St} {h : Option Hd} (hf : fldL l s = .ok s' h) : s'.m = s.m ∧ s'.t = s.t ∧ s'.hs = s.hs ∧ s'.pcs = s.pcs := by
  unfold fldL at hf
  split at hf
  · cases hf
  · cases hf
  · split at hf
    · simp only [Fl.ok.injEq] at hf
      obtain ⟨rfl, -⟩ := hf
      exact ⟨rfl, rfl, rfl, rfl⟩
    · split at hf
      · cases hf
      · split at hf
        · cases hf
        · simp only [Fl.ok.injEq] at hf
          obtain ⟨rfl, -⟩ := hf
          exact ⟨rfl, rfl, rfl, rfl⟩
theorem slice_str (S : ByteArray) (k j : Nat) (h1 : (k : Int) ≤ (j : Int)) (h2 : (j : Int) ≤ (S.size : Int)) (wx : World) : (Instr.slice 9 (.string S) (some (.int .i64 (k : Int))) (some (.int .i64 (j : Int))) none).run Tryz.prog wx = .ok (.string (S.extract k j)) wx := by
  simp [Instr.slice, run_underlying Tryz.underlying9, Instr.sliceBounds, run_sliceBound, h1, h2]
/-- What the loop over chunks holds. -/
def CkI (s0 : St) (w : World) (p : Nat) (l : List UInt8) (v : Value) (wr : World) : Prop := ∃ s, At l 4 s ∧ s.m = s0.m ∧ s.t = s0.t ∧ s.hs = s0.hs ∧ s.head ≤ s.at_ ∧ s.fields ≤ 100 ∧ s.sum = s.pcs.flatten.length ∧ s.sum ≤ 1048576 ∧ Dr wr p l s.at_ s.head s.fields false 0 ∧ Own wr w.heap.size v s.pcs.flatten ∧ Md (· = p) w wr
def CkD (s0 : St) (u : Nat) (b : List UInt8) : Tld := .done u s0.m s0.t s0.hs b (closeL s0.hs) ((getL s0.hs nEx).isSome && decide (0 < b.length))
def CkR (w w' : World) (p : Nat) (l : List UInt8) (s0 : St) (e : Ending) : Prop :=
  Md (· = p) w w' ∧ ((∃ u b v, parseL l = CkD s0 u b ∧ e = .returned (.tuple #[v, .bool true]) ∧ Own w' w.heap.size v b ∧ ∃ h n, Dr w' p l u h n false 0) ∨ (Fail (parseL l) ∧ (∃ a n c, e = .returned (.tuple #[.slice a n c, .bool false])) ∧ DF w' p l (tC (parseL l))))
theorem CkR.fail {w w' : World} {p : Nat} {l : List UInt8} {s0 : St} {e : Ending} {t : Tld} (hp : parseL l = t) (hf : Fail t) (he : ∃ a n c, e = .returned (.tuple #[.slice a n c, .bool false])) (h1 : DF w' p l (tC t)) (h2 : Md (· = p) w w') : CkR w w' p l s0 e := by
  subst hp
  exact ⟨h2, .inr ⟨hf, he, h1⟩⟩
theorem wrap_i64 {x : Int} (h0 : -9223372036854775808 ≤ x) (h1 : x ≤ 9223372036854775807) : IntKind.i64.wrap x = x := by rw [IntKind.wrap_i64]; omega
set_option maxRecDepth 20000 in
set_option maxHeartbeats 8000000 in
theorem chunksR_any (p : Nat) (l : List UInt8) (s0 : St) (w : World) (ha : At l 4 s0) (hp0 : s0.pcs = []) (hs0 : s0.sum = 0) (hh : s0.head ≤ s0.at_) (hf : s0.fields ≤ 100) (hd : Dr w p l s0.at_ s0.head s0.fields false 0) (hl : l.length ≤ 1000000000) :
    Calls Tryz.prog 23 #[.pointer (some ⟨p, 0, none⟩)] w fun e w' => CkR w w' p l s0 e := by
  obtain ⟨i0, hi, hz0, hz1, hz2⟩ := info_parts info5
  have H0 : Hid (CkI s0 w p l (.slice none 0 0) w) := ⟨s0, ha, rfl, rfl, rfl, hh, hf, by rw [hs0, hp0]; rfl, by omega, hd, by rw [hp0]; exact World.ownsRow_nil _ _ _ _, Md.refl _ _⟩
  have HP : Hid (p < w.heap.size) := hd.lt
  clear ha hp0 hs0 hh hf hd
  go_enter Tryz.func23, Tryz.ntmps23
  go_wp2
  go_loopw [4] (fun v wr => CkI s0 w p l v wr) (fun _ wr => l.length - dAt wr p)
  case atStart => exact H0.out
  case round =>
    obtain ⟨s, ha, hm, ht, hhs, hh, hf, hsum, hle, hd, hown, hmd⟩ := hrel
    obtain ⟨F, hF⟩ : ∃ F, F = s.pcs.flatten := ⟨_, rfl⟩
    rw [← hF] at hsum hown
    have HF := (show Hid _ from hF)
    clear hF
    have hk : s.at_ ≤ l.length := ha.1
    have HL := (show Hid _ from lineR_any p l s.at_ s.head s.fields 256 308 wr hd hk hl (by omega) (by omega))
    have HR := (show Hid _ from And.intro ha (And.intro hown hmd))
    have HE := (show Hid _ from And.intro hm (And.intro ht hhs))
    have HA : Hid (dAt wr p = s.at_) := hd.at_
    have hosl : ∃ a n c, u4 = .slice a n c := by
      obtain ⟨a, c, h⟩ := own_slice hown
      exact ⟨a, _, c, h⟩
    have hlt4 := fun j hj => (World.ownsRow.lt hown j hj).1
    have HLT := (show Hid _ from hlt4)
    clear ha hm ht hhs hd hown hmd hlt4
    obtain ⟨oa, on, oc, rfl⟩ := hosl
    have hon : on = F.length := by
      obtain ⟨a, c, h⟩ := own_slice HR.out.2.1
      simp only [Value.slice.injEq] at h
      exact h.2.1
    subst hon
    have hfl : F.length ≤ 1048576 := by omega
    go_wp2_with fail
    refine Calls.mono HL.out ?_
    clear HL
    intro e w1 hln
    cases hx : lnL 256 (256 + 1) (l.drop s.at_) with
    | more =>
      rw [hx] at hln
      obtain ⟨rfl, hdf, hm1⟩ := hln
      have HX := (show Hid (parseL l = .more ∧ DF w1 p l 0 ∧ Md (· = p) w w1) from ⟨HR.out.1.fin (step4_moreR hx), hdf, HR.out.2.2.trans hm1⟩)
      clear hx hdf hm1
      unfold failS
      go_wp2
      go_ret2
      exact CkR.fail HX.out.1 (.inl rfl) ⟨_, _, _, rfl⟩ HX.out.2.1 HX.out.2.2
    | long =>
      rw [hx] at hln
      obtain ⟨rfl, hdf, hm1⟩ := hln
      have HX := (show Hid (parseL l = .bad 308 ∧ DF w1 p l 308 ∧ Md (· = p) w w1) from ⟨HR.out.1.fin (step4_longR hx), hdf, HR.out.2.2.trans hm1⟩)
      clear hx hdf hm1
      unfold failS
      go_wp2
      go_ret2
      exact CkR.fail HX.out.1 (.inr ⟨308, by decide, rfl⟩) ⟨_, _, _, rfl⟩ HX.out.2.1 HX.out.2.2
    | ok x =>
      rw [hx] at hln
      rcases hln with ⟨hb, rfl, hdf, hm1⟩ | ⟨-, rfl, hdr, hm1⟩
      · have HX := (show Hid (parseL l = .bad 308 ∧ DF w1 p l 308 ∧ Md (· = p) w w1) from ⟨HR.out.1.fin (step4_noneR hx (chk_bare hb)), hdf, HR.out.2.2.trans hm1⟩)
        clear hx hdf hm1 hb
        unfold failS
        go_wp2
        go_ret2
        exact CkR.fail HX.out.1 (.inr ⟨308, by decide, rfl⟩) ⟨_, _, _, rfl⟩ HX.out.2.1 HX.out.2.2
      · have hx1 := (ln_ok hx).2.2.1
        rw [List.length_drop] at hx1
        have HSz := (show Hid _ from sizeR_any x w1 (by omega))
        have HLn := (show Hid _ from hx)
        obtain ⟨k, hkk⟩ : ∃ k, k = s.at_ + (x.length + 2) := ⟨_, rfl⟩
        have hkl : k ≤ l.length := by omega
        have HK := (show Hid _ from hkk)
        rw [← hkk] at hdr
        have HD1 := (show Hid _ from And.intro hdr (HR.out.2.2.trans hm1))
        have HO1 := (show Hid (Own w1 w.heap.size (.slice oa F.length oc) F) from own_md HR.out.2.1 hm1 (fun j hj => by have := HLT.out j hj; have := HP.out; omega))
        clear hx hdr hm1 hx1 hkk
        go_wp2_with fail
        refine Calls.mono HSz.out ?_
        clear HSz
        rintro e w2 ⟨rfl, hb2⟩
        have hd2 := HD1.out.1.below hb2
        have HD2 := (show Hid _ from And.intro hd2 (HD1.out.2.below hb2))
        have HO2 := (show Hid (Own w2 w.heap.size (.slice oa F.length oc) F) from own_md HO1.out (Md.ofBelow (F := fun _ => False) hb2) (fun _ _ h => h))
        have c0 := hd2.cell 0 rfl
        have c1 := hd2.cell 1 rfl
        have c4 := hd2.cell 4 rfl
        have c5 := hd2.cell 5 rfl
        have f1 := hd2.fz 1
        have f4 := hd2.fz 4
        have f5 := hd2.fz 5
        clear hd2 hb2 HD1 HO1
        cases hc : chkL x with
        | none =>
          have hci : chkI x = -1 := by rw [chkI, hc]
          rw [hci]
          have HX := (show Hid (parseL l = .bad 308) from HR.out.1.fin (step4_noneR HLn.out hc))
          clear hc hci
          go_wp2
          go_ret2
          exact CkR.fail HX.out (.inr ⟨308, by decide, rfl⟩) ⟨_, _, _, rfl⟩ ⟨_, _, _, false, Dr.of (set_lst HD2.out.1 5 _) rfl⟩ (HD2.out.2.setp _ _)
        | some n =>
          have hci : chkI x = (n : Int) := by rw [chkI, hc]
          have hn9 := chk_lt hc
          rw [hci]
          have HC := (show Hid _ from hc)
          clear hc hci
          by_cases hbig : 1048576 < s.sum + n
          · have HX := (show Hid (parseL l = .bad 324) from HR.out.1.fin (step4_bigR HLn.out HC.out hbig))
            have hbi : (1048576 : Int) < (F.length : Int) + (n : Int) := by omega
            go_wp2
            go_ret2
            exact CkR.fail HX.out (.inr ⟨324, by decide, rfl⟩) ⟨_, _, _, rfl⟩ ⟨_, _, _, false, Dr.of (set_lst HD2.out.1 5 _) rfl⟩ (HD2.out.2.setp _ _)
          · have hbi : ¬ (1048576 : Int) < (F.length : Int) + (n : Int) := by omega
            by_cases hn0 : n = 0
            · subst hn0
              have ha6 := HR.out.1.go (step4_lastR HLn.out HC.out hbig)
              have HB := (show Hid _ from blockR_any (fun s1 _ => At l 6 s1 ∧ s1.m = s0.m ∧ s1.t = s0.t ∧ s1.hs = s0.hs ∧ s1.pcs = s.pcs) p l { s with at_ := s.at_ + (x.length + 2) } w2 (fun s1 acc s2 z h1 h2 h3 => by
                have h4 := fld_keepR h3
                refine ⟨h1.1.go ?_, h4.1.trans h1.2.1, h4.2.1.trans h1.2.2.1, h4.2.2.1.trans h1.2.2.2.1, h4.2.2.2.trans h1.2.2.2.2⟩
                rw [stepF, h3]) ⟨ha6, HE.out.1, HE.out.2.1, HE.out.2.2, rfl⟩ (by rw [← HK.out]; exact HD2.out.1) (by rw [← HK.out]; exact hkl) hl (by simp only; omega) hf)
              have HP2 := (show Hid (p < w2.heap.size) from HD2.out.1.lt)
              clear ha6 c0 c1 c4 c5 f1 f4 f5
              go_wp2_with fail
              refine Calls.mono HB.out ?_
              clear HB
              rintro e w3 ⟨s1, acc, hi1, hk1, hh1, -, hm3, hbk⟩
              have hmw := HD2.out.2.trans hm3
              have how : Own w3 w.heap.size (.slice oa F.length oc) F := own_md HO2.out hm3 (fun j hj => by have := HLT.out j hj; have := HP.out; omega)
              cases hx1 : fldL l s1 with
              | fin t =>
                rw [hx1] at hbk
                obtain ⟨rfl, hdf⟩ := hbk
                have hpl : parseL l = t := hi1.1.fin (by rw [stepF, hx1])
                have HX := (show Hid _ from And.intro hpl (And.intro (fld_fail hx1) (And.intro hdf hmw)))
                clear hx1 hdf hmw how hpl hi1 hm3
                go_wp2
                go_ret2
                exact CkR.fail HX.out.1 HX.out.2.1 ⟨_, _, _, rfl⟩ HX.out.2.2.1 HX.out.2.2.2
              | ok s2 z =>
                cases z with
                | some z => rw [hx1] at hbk; exact hbk.elim
                | none =>
                  rw [hx1] at hbk
                  obtain ⟨v3, rfl, -, hdr3, -⟩ := hbk
                  have h4 := fld_keepR hx1
                  have hpl : parseL l = CkD s0 s2.at_ F := by
                    rw [hi1.1.fin (show stepF l 6 s1 = .fin (doneL s2) by rw [stepF, hx1]), doneL, CkD, h4.1, h4.2.1, h4.2.2.1, h4.2.2.2, hi1.2.1, hi1.2.2.1, hi1.2.2.2.1, hi1.2.2.2.2, HF.out]
                  have HX := (show Hid _ from And.intro hpl (And.intro hdr3 (And.intro hmw how)))
                  clear hx1 hdr3 hmw how hpl hi1 hm3 h4
                  go_wp2
                  go_ret2
                  exact ⟨HX.out.2.2.1, .inl ⟨_, _, _, HX.out.1, rfl, HX.out.2.2.2, _, _, HX.out.2.1⟩⟩
            · have ha5 := HR.out.1.go (step4_nextR HLn.out HC.out hbig hn0)
              have HA5 := (show Hid _ from ha5)
              have hnb : ((n : Int) == 0) = false := by rw [beq_eq_false_iff_ne]; omega
              obtain ⟨S, hS⟩ : ∃ S : ByteArray, S = ⟨l.toArray⟩ := ⟨_, rfl⟩
              have hsz : S.size = l.length := by rw [hS, mk_size]
              have hget : ∀ k (h : k < S.size), S[k] = l[k]'(by omega) := by subst hS; intro k h; rfl
              have HXt : Hid (∀ a b, S.extract a b = ⟨((l.take b).drop a).toArray⟩) := by subst hS; exact fun a b => mk_ext l a b
              rw [← hS] at c0
              have hk0 : (0 : Int) ≤ (k : Int) := by omega
              have hn00 : (0 : Int) ≤ (n : Int) := by omega
              have hk9 : (k : Int) ≤ 1000000000 := by omega
              have hn91 : (n : Int) ≤ 4294967296 := by omega
              have hl9 : (l.length : Int) ≤ 1000000000 := by omega
              clear ha5 hS
              by_cases hr0 : l.length ≤ k + n
              · have HX := (show Hid (parseL l = .more) from At.fin HA5.out (step5_more1R (by simp only; rw [← HK.out]; exact hr0)))
                have q1 : decide ((n : Int) < (l.length : Int) - (k : Int)) = false := by simp; omega
                have q2 : decide ((n : Int) + 1 < (l.length : Int) - (k : Int)) = false := by simp; omega
                have q3 : decide ((l.length : Int) - (k : Int) < (n : Int) + 2) = true := by simp; omega
                clear hget
                go_wp2
                go_quiet (fail)
                go_wp2
                go_quiet (fail)
                go_wp2
                go_ret2
                exact CkR.fail HX.out (.inl rfl) ⟨_, _, _, rfl⟩ ⟨_, _, _, true, Dr.of (set_lst (HD2.out.1.below (drewN_below w2 _)) 4 _) rfl⟩ ((HD2.out.2.below (drewN_below w2 _)).setp _ _)
              · obtain ⟨j, hj⟩ : ∃ j, j = k + n := ⟨_, rfl⟩
                have hjI : (k : Int) + (n : Int) = (j : Int) := by omega
                have hkn : j < l.length := by omega
                have q1 : decide ((n : Int) < (l.length : Int) - (k : Int)) = true := by simp; omega
                have w0' : IntKind.i64.wrap ((l.length : Int) - (k : Int)) = (l.length : Int) - (k : Int) := wrap_i64 (by omega) (by omega)
                have w1' : IntKind.i64.wrap (j : Int) = (j : Int) := wrap_i64 (by omega) (by omega)
                have w2' : IntKind.i64.wrap ((n : Int) + 1) = (n : Int) + 1 := wrap_i64 (by omega) (by omega)
                have w3' : IntKind.i64.wrap ((j : Int) + 1) = (j : Int) + 1 := wrap_i64 (by omega) (by omega)
                have b1 : (j : Int) < (S.size : Int) := by omega
                have b2 : (0 : Int) ≤ (j : Int) := by omega
                have b3 : decide (S.size ≤ j) = false := decide_eq_false (by omega)
                have hjS : j < S.size := by omega
                have g1 := hget j hjS
                have HJ := (show Hid _ from hj)
                clear hj
                by_cases hc13 : l[j] = 13
                · have hcb : (((S[j]'hjS).toNat : Int) != 13) = false := by rw [g1, hc13]; rfl
                  have HC13 := (show Hid (l[j] = 13) from hc13)
                  by_cases hr1 : l.length = j + 1
                  · have HX := (show Hid (parseL l = .more) from At.fin HA5.out (step5_more2R (by simp only; rw [← HK.out, ← HJ.out]; exact hr1) (by simp only [← HK.out, ← HJ.out]; exact hc13)))
                    have q2 : decide ((n : Int) + 1 < (l.length : Int) - (k : Int)) = false := by simp; omega
                    have q3 : decide ((l.length : Int) - (k : Int) < (n : Int) + 2) = true := by simp; omega
                    clear hget g1 hc13 hr1
                    go_wp2
                    go_quiet (fail)
                    go_wp2
                    go_quiet (fail)
                    go_wp2
                    go_ret2
                    exact CkR.fail HX.out (.inl rfl) ⟨_, _, _, rfl⟩ ⟨_, _, _, true, Dr.of (set_lst (HD2.out.1.below (drewN_below w2 _)) 4 _) rfl⟩ ((HD2.out.2.below (drewN_below w2 _)).setp _ _)
                  · have hj1 : j + 1 < l.length := by omega
                    have q2 : decide ((n : Int) + 1 < (l.length : Int) - (k : Int)) = true := by simp; omega
                    obtain ⟨j1, hj1e⟩ : ∃ j1, j1 = j + 1 := ⟨_, rfl⟩
                    have hj1I : (j : Int) + 1 = (j1 : Int) := by omega
                    have hj1l : j1 < l.length := by omega
                    have hjS1 : j1 < S.size := by omega
                    have b4 : (j1 : Int) < (S.size : Int) := by omega
                    have b5 : decide (S.size ≤ j1) = false := decide_eq_false (by omega)
                    have b6 : (0 : Int) ≤ (j1 : Int) := by omega
                    have w4' : IntKind.i64.wrap (j1 : Int) = (j1 : Int) := wrap_i64 (by omega) (by omega)
                    have g2 := hget j1 hjS1
                    have HJ1 := (show Hid _ from hj1e)
                    clear hj1e w3'
                    by_cases hd10 : l[j1] = 10
                    · have hdb : (((S[j1]'hjS1).toNat : Int) != 10) = false := by rw [g2, hd10]; rfl
                      have HD10 := (show Hid (l[j1] = 10) from hd10)
                      have q3 : decide ((l.length : Int) - (k : Int) < (n : Int) + 2) = false := by
                        have := HJ1.out
                        have := HJ.out
                        simp
                        omega
                      have ha4 := At.go HA5.out (step5_goR (by simp only; rw [← HK.out, ← HJ.out]; exact hj1) (by simp only [← HK.out, ← HJ.out]; exact hc13) (by simp only [← HK.out, ← HJ.out, ← HJ1.out]; exact hd10))
                      obtain ⟨pc, hpc⟩ : ∃ pc, pc = (l.drop k).take n := ⟨_, rfl⟩
                      have hpcl : pc.length = n := by rw [hpc, List.length_take, List.length_drop]; omega
                      have HPc := (show Hid (S.extract k j = ⟨pc.toArray⟩) from by show _ = _; rw [HXt.out, HJ.out, piece_of, hpc])
                      have hpcz : (S.extract k j).size = n := by rw [HPc.out, mk_size, hpcl]
                      have HPcz := (show Hid _ from hpcz)
                      have hjz : (j : Int) ≤ (S.size : Int) := by omega
                      have hkj : (k : Int) ≤ (j : Int) := by omega
                      have hFn : F.length + n ≤ 2000000000 := by omega
                      have hsz2 : w.heap.size ≤ w2.heap.size := HD2.out.2.size
                      have hs7 : ∃ s7 : St, At l 4 s7 ∧ s7.at_ = j + 2 ∧ s7.head = s.head ∧ s7.fields = s.fields ∧ s7.m = s.m ∧ s7.t = s.t ∧ s7.hs = s.hs ∧ s7.sum = s.sum + n ∧ s7.pcs = s.pcs ++ [pc] := by
                        refine ⟨_, ha4, ?_, rfl, rfl, rfl, rfl, rfl, rfl, ?_⟩
                        · show s.at_ + (x.length + 2) + n + 2 = j + 2
                          have := HJ.out
                          have := HK.out
                          omega
                        · show s.pcs ++ [(l.drop (s.at_ + (x.length + 2))).take n] = _
                          rw [← HK.out, hpc]
                      have HS7 := (show Hid _ from hs7)
                      have HQ := (show Hid (pc = (l.drop k).take n ∧ pc.length = n) from ⟨hpc, hpcl⟩)
                      have hpo := HLT.out
                      have HOq := (show Hid (∀ q, Own (w2.drewN q) w.heap.size (.slice oa F.length oc) F) from fun q => own_md HO2.out (Md.ofBelow (F := fun _ => False) (drewN_below w2 q)) (fun _ _ h => h))
                      clear hget g1 g2 hc13 hd10 hr1 ha4 hpc hpcl hpcz hs7
                      go_wp2
                      go_quiet (fail)
                      go_wp2
                      go_quiet (fail)
                      go_wp2
                      have HOr := (show Hid (∀ q, (w2.drewN q).drew.ownsRow w.heap.size 5 1 (.slice oa F.length oc) F.length (bcs F)) from fun q => World.ownsRow.drew (HOq.out q))
                      have hb63 : F.length + (S.extract k j).size ≤ maxLen := by unfold maxLen; rw [HPcz.out]; omega
                      have hb48 : F.length + (S.extract k j).size ≤ 140737488355328 := by rw [HPcz.out]; omega
                      have hbs := (show Hid (∀ q, w.heap.size ≤ (w2.drewN q).drew.heap.size) from fun _ => hsz2)
                      have hnp : some p ≠ (Value.slice oa F.length oc).ownBlock := by
                        intro h
                        have h7 := hpo p h.symm
                        have := HP.out
                        omega
                      have HCf := (show Hid (∀ q w6, (w2.drewN q).drew.grownBy w6 (Value.slice oa F.length oc).ownBlock → w6.cell? ⟨p, 1, none⟩ = some (.int .i64 (k : Int))) from fun q w6 hg => hg.cell c1 hnp)
                      have HFz := (show Hid (∀ q w6, (w2.drewN q).drew.grownBy w6 (Value.slice oa F.length oc).ownBlock → w6.frozen? ⟨p, 1, none⟩ = false) from fun q w6 hg => by
                        have hb : w6.heap[p]? = w2.heap[p]? := hg.block p HD2.out.1.lt (fun e => hnp e)
                        exact (World.frozen?_of_block (w := w2) (a := ⟨p, 1, none⟩) hb).trans f1)
                      have HFIN := (show Hid (∀ q v6 w6, w6.ownsRow w.heap.size 5 1 v6 (F.length + (S.extract k j).size) (bcs F ++ Lib.strCells (S.extract k j)) → (w2.drewN q).drew.grownBy w6 (Value.slice oa F.length oc).ownBlock → CkI s0 w p l v6 (w6.setCell ⟨p, 1, none⟩ (.int .i64 ((j : Int) + 2))) ∧ l.length - dAt (w6.setCell ⟨p, 1, none⟩ (.int .i64 ((j : Int) + 2))) p < l.length - dAt wr p) from fun q v6 w6 ho hg => by
                        have hb : w6.heap[p]? = w2.heap[p]? := hg.block p HD2.out.1.lt (fun e => hnp e)
                        have hd6 : Dr w6 p l k s.head s.fields false 0 := hb.trans HD2.out.1
                        have hm6 : Md (· = p) w w6 := (HD2.out.2.below (drewN_below w2 q)).drew.grown hg (fun b hb2 => .inr (hpo b hb2))
                        have hd7 : Dr (w6.setCell ⟨p, 1, none⟩ (.int .i64 ((j : Int) + 2))) p l (j + 2) s.head s.fields false 0 := Dr.of (set_lst hd6 1 _) rfl
                        have ho6 : Own w6 w.heap.size v6 (F ++ pc) := by
                          refine own_more HQ.out.2 (strCells_bcs pc).symm ?_
                          rw [← HPc.out, ← HPcz.out]
                          exact ho
                        obtain ⟨s7, ha7, ea, eh, ef, em, et, es, esum, ep⟩ := HS7.out
                        have efl : s7.pcs.flatten = F ++ pc := by
                          rw [ep, List.flatten_append, ← HF.out]
                          simp
                        have h7 := own_md (F := (· = p)) ho6 ((Md.refl _ w6).setp 1 (.int .i64 ((j : Int) + 2))) (fun b hb2 hbp => by
                          have := (ho6.lt b hb2).1
                          have := HP.out
                          omega)
                        refine ⟨⟨s7, ha7, em.trans HE.out.1, et.trans HE.out.2.1, es.trans HE.out.2.2, ?_, by rw [ef]; exact hf, ?_, ?_, ?_, ?_, hm6.setp _ _⟩, ?_⟩
                        · have := HJ.out
                          have := HK.out
                          omega
                        · rw [efl, List.length_append, HQ.out.2, esum, hsum]
                        · omega
                        · rw [ea, eh, ef]
                          exact hd7
                        · rw [efl]
                          exact h7
                        · rw [hd7.at_, HA.out]
                          have := HJ.out
                          have := HK.out
                          omega)
                      have hsl := fun wx => slice_str S k j hkj hjz wx
                      go_region_law
                        (first | (refine step_append_str rfl (.tmp 116) (.tmp 131) 22 9 rfl w.heap.size 5 i0 Tryz.underlying22 Tryz.underlying9 hi hz0 hz1 hz2 (.slice oa F.length oc) F.length (bcs F) rfl (HOr.out _) (S.extract k j) rfl hb63 hb48 (hbs.out _) ?_; intro v6 w6 hown6 hgrow6; have c16 := HCf.out _ _ hgrow6; have f16 := HFz.out _ _ hgrow6; have K := HFIN.out _ _ _ hown6 hgrow6; clear hown6 hgrow6))
                      all_goals
                        go_wp2
                        exact K
                    · have hdb : (((S[j1]'hjS1).toNat : Int) != 10) = true := by
                        rw [g2, bne_iff_ne]
                        intro h
                        exact hd10 (UInt8.toNat.inj (by show _ = 10; omega))
                      have HX := (show Hid (parseL l = .bad 308) from At.fin HA5.out (step5_bad2R (by simp only; rw [← HK.out, ← HJ.out]; exact hj1) (by simp only [← HK.out, ← HJ.out]; exact hc13) (by simp only [← HK.out, ← HJ.out, ← HJ1.out]; exact hd10)))
                      clear hget g1 g2 hc13 hd10 hr1
                      go_wp2
                      go_quiet (fail)
                      go_wp2
                      go_ret2
                      exact CkR.fail HX.out (.inr ⟨308, by decide, rfl⟩) ⟨_, _, _, rfl⟩ ⟨_, _, _, false, Dr.of (set_lst (HD2.out.1.below (drewN_below w2 _)) 5 _) rfl⟩ ((HD2.out.2.below (drewN_below w2 _)).setp _ _)
                · have hcb : (((S[j]'hjS).toNat : Int) != 13) = true := by
                    rw [g1, bne_iff_ne]
                    intro h
                    exact hc13 (UInt8.toNat.inj (by show _ = 13; omega))
                  have HX := (show Hid (parseL l = .bad 308) from At.fin HA5.out (step5_bad1R (by simp only; rw [← HK.out, ← HJ.out]; exact hkn) (by simp only [← HK.out, ← HJ.out]; exact hc13)))
                  clear hget g1 hc13
                  go_wp2
                  go_quiet (fail)
                  go_wp2
                  go_ret2
                  exact CkR.fail HX.out (.inr ⟨308, by decide, rfl⟩) ⟨_, _, _, rfl⟩ ⟨_, _, _, false, Dr.of (set_lst (HD2.out.1.below (drewN_below w2 _)) 5 _) rfl⟩ ((HD2.out.2.below (drewN_below w2 _)).setp _ _)
end Go.Proofs.YtmodmeabjhaklabGreatDoor
