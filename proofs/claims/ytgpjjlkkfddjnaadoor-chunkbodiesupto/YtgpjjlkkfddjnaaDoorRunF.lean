/-
  The document's reader of chunks: what it reads, against the code's.
-/
import Derived.Test.YtgpjjlkkfddjnaaDoorRunD
import Derived.Deep.RegionHeld3
import Derived.BigQuiet
import Derived.Test.YtgpjjlkkfddjnaaDoorRunC
namespace Go.Proofs.YtgpjjlkkfddjnaaDoor
open Go.RowKit

/-- What the document's 'size' leaves: faults at once where nothing is left, or no digit stood. -/
def szS (s : RS) : RS := if s.1.drop (dnL 8 s.1) = [] then (s.1.drop (dnL 8 s.1), 307) else if dnL 8 s.1 = 0 then (s.1, 308) else (s.1.drop (dnL 8 s.1), 0)
def szN (s : RS) : Nat := numL (s.1.take (dnL 8 s.1))
/-- Alike: the same fault, and the same rest if there is none. -/
def Alk (s t : RS) : Prop := s.2 = t.2 ∧ (s.2 = 0 → s.1 = t.1)
theorem alk_tx {t : List UInt8} {s u : RS} (h : Alk s u) : Alk (txS t s) (txS t u) := by
  by_cases h0 : s.2 = 0
  · have e : s = u := Prod.ext (h.2 h0) h.1
    rw [e]
    exact ⟨rfl, fun _ => rfl⟩
  · have h1 : u.2 ≠ 0 := by rw [← h.1]; exact h0
    have e1 : txS t s = s := by rw [txS, exS_fault h0, tkS_fault h0]
    have e2 : txS t u = u := by rw [txS, exS_fault h1, tkS_fault h1]
    rw [e1, e2]
    exact h
theorem tx_nil : txS sigT (([], 0) : RS) = ([], 307) := by rfl
/-- Digits and the text behind them: both ways of reading. -/
theorem sz_alk (l : List UInt8) : Alk (txS sigT (szS (l, 0))) (txS sigT (dgS 1 8 (l, 0)).2) ∧ ((txS sigT (szS (l, 0))).2 = 0 → szN (l, 0) = numL (dgS 1 8 (l, 0)).1) := by
  obtain ⟨k, hk⟩ : ∃ k, k = dnL 8 l := ⟨_, rfl⟩
  have h := dnL_le 8 l
  rw [← hk] at h
  by_cases h1 : l.drop k = []
  · have hkl : k = l.length := by
      have := congrArg List.length h1
      simp only [List.length_drop, List.length_nil] at this
      omega
    have e1 : szS (l, 0) = ([], 307) := by simp [szS, ← hk, h1]
    have e2 : (txS sigT (dgS 1 8 (l, 0)).2).2 = 307 := by
      by_cases h0 : k = 0
      · have hl : l = [] := List.eq_nil_of_length_eq_zero (by omega)
        subst hl
        rfl
      · have hg : dgS 1 8 ((l, 0) : RS) = (l, ([], 0)) := by
          have e : max k 1 = l.length := by omega
          rw [dgS]
          simp only [← hk, e]
          simp [exS, tkS, hkl]
        rw [hg, tx_nil]
    have e3 : txS sigT ((([], 307) : RS)) = ([], 307) := by rfl
    rw [e1, e3]
    exact ⟨⟨e2.symm, fun h => by cases h⟩, fun h => by cases h⟩
  · by_cases h0 : k = 0
    · have e1 : szS (l, 0) = (l, 308) := by simp [szS, ← hk, h0]; intro e; rw [h0] at h1; simp [e] at h1
      have hne : ¬ (0 : Nat) = l.length := by
        intro e
        rw [h0] at h1
        exact h1 (List.eq_nil_of_length_eq_zero (by rw [List.drop_zero]; exact e.symm))
      have e2 : (dgS 1 8 ((l, 0) : RS)).2 = (l, 308) := by
        rw [dgS]
        simp only [← hk, h0]
        simp [exS, tkS, hne]
      rw [e1, e2]
      have e3 : txS sigT (((l, 308) : RS)) = (l, 308) := by simp [txS, exS, tkS]
      rw [e3]
      exact ⟨⟨rfl, fun h => by cases h⟩, fun h => by cases h⟩
    · have e1 : szS (l, 0) = (l.drop k, 0) := by simp only [szS, ← hk]; rw [if_neg h1, if_neg h0]
      have e : max k 1 = k := by omega
      have hk1 : 1 ≤ k := by omega
      have e2 : dgS 1 8 ((l, 0) : RS) = (l.take k, (l.drop k, 0)) := by
        have hlt : ¬ l.length < k := by omega
        rw [dgS]
        simp only [← hk, e]
        simp [exS, tkS, hk1, hlt]
      rw [e1, e2]
      exact ⟨⟨rfl, fun _ => rfl⟩, fun _ => by simp only [szN, ← hk]⟩
/-- What the eating of a text leaves, told by how far it fits. -/
theorem tx_fit {t l : List UInt8} {j : Nat} (hj : j < t.length) (hjl : j ≤ l.length) (hp : l.take j = t.take j) : (j = l.length → (txS t (l, 0)).2 = 307) ∧ (∀ h : j < l.length, l[j] ≠ t[j] → (txS t (l, 0)).2 = 308) := by
  constructor
  · intro e
    subst e
    rw [List.take_length] at hp
    rw [hp]
    exact tx_short hj
  · intro h hne
    have hb : txB t l = false := by
      cases hx : txB t l with
      | false => rfl
      | true =>
        simp only [txB, decide_eq_true_eq] at hx
        have h1 : (l.take (min t.length l.length))[j]? = (t.take (min t.length l.length))[j]? := by rw [hx]
        rw [List.getElem?_take_of_lt (by omega), List.getElem?_take_of_lt (by omega), List.getElem?_eq_getElem h, List.getElem?_eq_getElem hj] at h1
        exact absurd (Option.some.inj h1) hne
    simp [txS, exS, hb, tkS]
theorem tx_whole {t l : List UInt8} (hp : l.take t.length = t) : txS t (l, 0) = (l.drop t.length, 0) := by
  have e : l = t ++ l.drop t.length := by
    have := List.take_append_drop t.length l
    rw [hp] at this
    exact this.symm
  have h := tx_yes t (l.drop t.length)
  rw [← e] at h
  exact h
theorem nm_cases (l : List UInt8) : (dnL 64 l = 64 → dgS 64 64 (l, 0) = (l.take 64, (l.drop 64, 0))) ∧ (dnL 64 l < 64 → dnL 64 l = l.length → (dgS 64 64 (l, 0)).2.2 = 307) ∧ (dnL 64 l < 64 → dnL 64 l ≠ l.length → (dgS 64 64 (l, 0)).2.2 = 308) := by
  have h := dnL_le 64 l
  refine ⟨fun e => ?_, fun e1 e2 => ?_, fun e1 e2 => ?_⟩
  · have hlt : ¬ l.length < 64 := by omega
    rw [dgS]
    simp only [e]
    simp [exS, tkS, hlt]
  · have e : max (dnL 64 l) 64 = 64 := by omega
    have hlt : l.length < 64 := by omega
    rw [dgS]
    simp only [e]
    simp [exS, tkS, e2, hlt]
  · have hlt : ¬ 64 ≤ dnL 64 l := by omega
    rw [dgS]
    simp [exS, tkS, e2, hlt]
end Go.Proofs.YtgpjjlkkfddjnaaDoor
/-
  The document's reader of chunks: its box, digits, size.
-/
namespace Go.Proofs.YtgpjjlkkfddjnaaDoor
open Go.RowKit

/-- The document's reader in the box p: at the place k, with the fault f. -/
structure Rr (w : World) (p B : Nat) (a : Option Addr) (cap : Nat) (l : List UInt8) (k : Nat) (f : Int) : Prop where
  box : w.heap[p]? = some (.cells #[.slice a l.length cap, .int .i64 (k : Int), .int .i64 f] 56 (0, 0))
  by_ : Bytes w a l
  lo : ∀ x, a = some x → x.spot = none ∧ x.block < B
  bp : B ≤ p
  kl : k ≤ l.length
theorem Rr.lt {w : World} {p B : Nat} {a : Option Addr} {cap : Nat} {l : List UInt8} {k : Nat} {f : Int} (h : Rr w p B a cap l k f) : p < w.heap.size := blk_lt h.box
theorem Rr.turn {w W : World} {p B : Nat} {a : Option Addr} {cap : Nat} {l : List UInt8} {k k' : Nat} {f f' : Int} (h : Rr w p B a cap l k f) (hm : Md (· = p) w W) (hk : k' ≤ l.length)
    (hbox : W.heap[p]? = some (.cells #[.slice a l.length cap, .int .i64 (k' : Int), .int .i64 f'] 56 (0, 0))) : Rr W p B a cap l k' f' :=
  ⟨hbox, h.by_.md hm (fun b off e hb => by have := (h.lo _ e).2; have := h.bp; simp only at *; omega), h.lo, h.bp, hk⟩
theorem Rr.keep {w W : World} {p B : Nat} {a : Option Addr} {cap : Nat} {l : List UInt8} {k : Nat} {f : Int} (h : Rr w p B a cap l k f) (hb : Below w.heap.size w W) : Rr W p B a cap l k f :=
  ⟨(hb.block p h.lt).trans h.box, h.by_.below hb (Nat.le_refl _), h.lo, h.bp, h.kl⟩
theorem Rr.cells {w : World} {p B : Nat} {a : Option Addr} {cap : Nat} {l : List UInt8} {k : Nat} {f : Int} (h : Rr w p B a cap l k f) : w.cell? ⟨p, 0, none⟩ = some (.slice a l.length cap) ∧ w.cell? ⟨p, 1, none⟩ = some (.int .i64 (k : Int)) ∧ w.cell? ⟨p, 2, none⟩ = some (.int .i64 f) ∧ w.frozen? ⟨p, 1, none⟩ = false ∧ w.frozen? ⟨p, 2, none⟩ = false :=
  ⟨(cell_blk h.box 0).trans rfl, (cell_blk h.box 1).trans rfl, (cell_blk h.box 2).trans rfl, frozen_blk h.box 1, frozen_blk h.box 2⟩
set_option maxHeartbeats 1000000 in
theorem rdigit_any (c : UInt8) (w : World) : Calls Tryd.prog 42 #[.int .u8 (c.toNat : Int)] w fun e w' => e = .returned (.bool (isDg c)) ∧ w' = w := by
  obtain ⟨n, hn⟩ : ∃ n, n = c.toNat := ⟨_, rfl⟩
  have HD : Hid (isDg c = (decide (48 ≤ n ∧ n ≤ 57) || decide (97 ≤ n ∧ n ≤ 102))) := by show _ = _; rw [hn]; rfl
  rw [← hn]
  clear hn
  go_enter Tryd.func42, Tryd.ntmps42
  by_cases h1 : (48 : Int) ≤ (n : Int)
  · by_cases h2 : (n : Int) ≤ 57
    · go_wp2
      go_ret
      refine ⟨?_, rfl⟩
      rw [HD.out]
      have h1' : 48 ≤ n := by omega
      have h2' : n ≤ 57 := by omega
      simp [h1', h2']
    · by_cases h3 : (97 : Int) ≤ (n : Int)
      · by_cases h4 : (n : Int) ≤ 102
        · go_wp2
          go_ret
          refine ⟨?_, rfl⟩
          rw [HD.out]
          have h3' : 97 ≤ n := by omega
          have h4' : n ≤ 102 := by omega
          simp [h3', h4']
        · go_wp2
          go_ret
          refine ⟨?_, rfl⟩
          rw [HD.out]
          have h2' : ¬ n ≤ 57 := by omega
          have h4' : ¬ n ≤ 102 := by omega
          simp [h2', h4']
      · go_wp2
        go_ret
        refine ⟨?_, rfl⟩
        rw [HD.out]
        have h2' : ¬ n ≤ 57 := by omega
        have h3' : ¬ 97 ≤ n := by omega
        simp [h2', h3']
  · have h3 : ¬ (97 : Int) ≤ (n : Int) := by omega
    go_wp2
    go_ret
    refine ⟨?_, rfl⟩
    rw [HD.out]
    have h1' : ¬ 48 ≤ n := by omega
    have h3' : ¬ 97 ≤ n := by omega
    simp [h1', h3']
set_option maxHeartbeats 1000000 in
theorem rDigit_any (c : UInt8) (hc : isDg c = true) (w : World) : Calls Tryd.prog 43 #[.int .u8 (c.toNat : Int)] w fun e w' => e = .returned (.int .i64 (dvN c : Int)) ∧ w' = w := by
  simp only [isDg, Bool.or_eq_true, decide_eq_true_eq] at hc
  have HV : Hid (dvN c = if 48 ≤ c.toNat ∧ c.toNat ≤ 57 then c.toNat - 48 else c.toNat - 87) := rfl
  obtain ⟨n, hn⟩ : ∃ n, n = c.toNat := ⟨_, rfl⟩
  rw [← hn] at hc HV ⊢
  clear hn
  by_cases h : 48 ≤ n ∧ n ≤ 57
  · have h1 : (48 : Int) ≤ (n : Int) := by omega
    have h2 : (n : Int) ≤ 57 := by omega
    have hw : IntKind.u8.wrap ((n : Int) - 48) = (n : Int) - 48 := by rw [IntKind.wrap_u8]; omega
    have hw2 : IntKind.i64.wrap ((n : Int) - 48) = (n : Int) - 48 := by rw [IntKind.wrap_i64]; omega
    have HX := (show Hid ((dvN c : Int) = (n : Int) - 48) from by show _ = _; rw [HV.out, if_pos h]; omega)
    clear hc
    go_enter Tryd.func43, Tryd.ntmps43
    go_wp2
    go_ret
    refine ⟨?_, rfl⟩
    rw [HX.out]
    rfl
  · have h97 : 97 ≤ n ∧ n ≤ 102 := by omega
    have h1 : ¬ (n : Int) ≤ 57 := by omega
    have h0 : (48 : Int) ≤ (n : Int) := by omega
    have h2 : (97 : Int) ≤ (n : Int) := by omega
    have h3 : (n : Int) ≤ 102 := by omega
    have hw : IntKind.u8.wrap ((n : Int) - 97) = (n : Int) - 97 := by rw [IntKind.wrap_u8]; omega
    have hw2 : IntKind.i64.wrap ((n : Int) - 97) = (n : Int) - 97 := by rw [IntKind.wrap_i64]; omega
    have HX := (show Hid ((dvN c : Int) = (n : Int) - 97 + 10) from by show _ = _; rw [HV.out, if_neg h]; omega)
    clear hc
    go_enter Tryd.func43, Tryd.ntmps43
    go_wp2
    go_ret
    refine ⟨?_, rfl⟩
    rw [HX.out]
    rfl
end Go.Proofs.YtgpjjlkkfddjnaaDoor
/-
  The document's reader of chunks: eat.
-/
namespace Go.Proofs.YtgpjjlkkfddjnaaDoor
open Go.RowKit

/-- The reader stands where s tells. -/
def Rep (w : World) (p B : Nat) (a : Option Addr) (cap : Nat) (l : List UInt8) (s : RS) : Prop := ∃ k, Rr w p B a cap l k s.2 ∧ (s.2 = 0 → l.drop k = s.1)
set_option maxRecDepth 20000 in
set_option maxHeartbeats 4000000 in
theorem eat_any (p B : Nat) (a : Option Addr) (cap : Nat) (l : List UInt8) (s : RS) (t : List UInt8) (w : World) (h : Rep w p B a cap l s) (hl : l.length ≤ 1000000000) (ht : t.length ≤ 100) :
    Calls Tryd.prog 21 #[.pointer (some ⟨p, 0, none⟩), .string ⟨t.toArray⟩] w fun e w' => e = .returned (.tuple #[]) ∧ Rep w' p B a cap l (txS t s) ∧ Md (· = p) w w' := by
  obtain ⟨k0, hr, hd⟩ := h
  have HL := (show Hid (l.length ≤ 1000000000 ∧ t.length ≤ 100) from ⟨hl, ht⟩)
  obtain ⟨TS, hTS⟩ : ∃ TS : ByteArray, TS = ⟨t.toArray⟩ := ⟨_, rfl⟩
  have hTz : TS.size = t.length := by rw [hTS]; show t.toArray.size = _; simp
  have HTS := (show Hid (∀ j (h : j < t.length), ∃ h' : j < TS.size, (TS[j]'h').toNat = t[j].toNat) from fun j h => by
    subst hTS
    exact ⟨by rw [hTz]; exact h, rfl⟩)
  rw [← hTS]
  obtain ⟨r, f⟩ := s
  simp only at hr hd
  have HR := (show Hid (Rr w p B a cap l k0 f ∧ (f = 0 → l.drop k0 = r)) from ⟨hr, hd⟩)
  obtain ⟨c0, c1, c2, f1, f2⟩ := hr.cells
  by_cases hf : f = 0
  · subst hf
    have hdr := hd rfl
    subst hdr
    clear hr hd hTS
    go_enter Tryd.func21, Tryd.ntmps21
    go_wp2_with fail
    go_loopw [4] (fun i wr => ∃ (j k : Nat) (f9 : Int), j ≤ t.length + 1 ∧ i = .int .i64 (j : Int) ∧ Hid (Rr wr p B a cap l k f9 ∧ Md (· = p) w wr ∧ ((f9 = 0 ∧ j ≤ t.length ∧ k = k0 + j ∧ (l.drop k0).take j = t.take j) ∨ (f9 ≠ 0 ∧ f9 = (txS t (l.drop k0, 0)).2)))) (fun i _ => t.length + 1 - (intOf i).toNat)
    case atStart => exact ⟨0, k0, 0, by omega, rfl, ⟨HR.out.1, Md.refl _ _, .inl ⟨rfl, by omega, rfl, by simp⟩⟩⟩
    case round =>
      obtain ⟨j, k, f9, hj, rfl, hi⟩ := hrel
      clear c0 c1 c2 f1 f2
      obtain ⟨c0, c1, c2, f1, f2⟩ := hi.out.1.cells
      have hj9 : (j : Int) < 1000 := by have := HL.out.2; omega
      have hj0 : (0 : Int) ≤ (j : Int) := by omega
      by_cases hf9 : f9 = 0
      · subst hf9
        have hcase : j ≤ t.length ∧ k = k0 + j ∧ (l.drop k0).take j = t.take j := by
          rcases hi.out.2.2 with ⟨-, h⟩ | ⟨h, -⟩
          · exact h
          · exact absurd rfl h
        obtain ⟨hjt, hkk, hpre⟩ := hcase
        have HC := (show Hid (k = k0 + j ∧ (l.drop k0).take j = t.take j) from ⟨hkk, hpre⟩)
        by_cases hlt : j < t.length
        · have hjT : (j : Int) < (TS.size : Int) := by omega
          obtain ⟨hj2, hTj⟩ := HTS.out j hlt
          have hfit := tx_fit (t := t) (l := l.drop k0) (j := j) hlt (by rw [List.length_drop]; have := hi.out.1.kl; omega) hpre
          by_cases hkl : k = l.length
          · have hkli : (k : Int) = (l.length : Int) := by omega
            have HF := (show Hid ((txS t (l.drop k0, 0)).2 = 307) from hfit.1 (by rw [List.length_drop]; omega))
            clear hfit hTj hj2 hkk hpre
            go_wp2_with fail
            go_quiet (fail)
            go_wp2_with fail
            go_roundw
            case rel => exact ⟨j + 1, k, 307, by omega, by go_num, ⟨(hi.out.1.keep (drewN_below wr _)).turn (Md.setp (Md.refl _ _) _ _) hi.out.1.kl (by rw [set_blk (hi.out.1.keep (drewN_below wr _)).box]; rfl), (hi.out.2.1.below (drewN_below wr _)).setp _ _, .inr ⟨by decide, HF.out.symm⟩⟩⟩
            case measure => simp [intOf]; omega
          · have hkl2 : k < l.length := by have := hi.out.1.kl; omega
            have hkli : (k : Int) < (l.length : Int) := by omega
            have hkne : ¬ (k : Int) = (l.length : Int) := by omega
            have hk0 : (0 : Int) ≤ (k : Int) := by omega
            obtain ⟨b, off, rfl, hbs, hcs⟩ := hi.out.1.by_.at hkl2
            have hcell := hcs k hkl2
            have hdj : (l.drop k0)[j]'(by rw [List.length_drop]; omega) = l[k] := by
              rw [List.getElem_drop]
              congr 1
              omega
            have HK := (show Hid (∀ h : j < (l.drop k0).length, (l.drop k0)[j]'h = l[k]) from fun _ => hdj)
            clear hdj hcs hbs
            have h16 : IntKind.i64.wrap ((k : Int) + 1) = ((k + 1 : Nat) : Int) := by have := HL.out.1; rw [IntKind.wrap_i64]; omega
            by_cases heq : l[k] = t[j]
            · have hce : (l[k].toNat : Int) = ((TS[j]'hj2).toNat : Int) := by rw [heq, hTj]
              have HX := (show Hid ((l.drop k0).take (j + 1) = t.take (j + 1)) from by
                show _ = _
                rw [List.take_succ_eq_append_getElem (by rw [List.length_drop]; omega), List.take_succ_eq_append_getElem hlt, HC.out.2, HK.out _, heq])
              have HE := (show Hid (l[k] = t[j]) from heq)
              clear hfit hkk hpre heq
              go_wp2_with fail
              go_quiet (fail)
              go_wp2_with fail
              go_quiet (fail)
              go_wp2_with fail
              go_roundw
              case rel => exact ⟨j + 1, k + 1, 0, by omega, by go_num, ⟨(hi.out.1.keep (drewN_below wr _)).turn (Md.setp (Md.refl _ _) _ _) hkl2 (by rw [set_blk (hi.out.1.keep (drewN_below wr _)).box]; rfl), (hi.out.2.1.below (drewN_below wr _)).setp _ _, .inl ⟨rfl, by omega, by have := HC.out.1; omega, HX.out⟩⟩⟩
              case measure => simp [intOf]; omega
            · have hce : ¬ (l[k].toNat : Int) = ((TS[j]'hj2).toNat : Int) := by
                rw [hTj]
                intro e
                exact heq (UInt8.toNat_inj.1 (by omega))
              have HF := (show Hid ((txS t (l.drop k0, 0)).2 = 308) from hfit.2 (by rw [List.length_drop]; have := HC.out.1; omega) (by rw [HK.out _]; exact heq))
              clear hfit hkk hpre heq
              go_wp2_with fail
              go_quiet (fail)
              go_wp2_with fail
              go_quiet (fail)
              go_wp2_with fail
              go_roundw
              case rel => exact ⟨j + 1, k, 308, by omega, by go_num, ⟨(hi.out.1.keep (drewN_below wr _)).turn (Md.setp (Md.refl _ _) _ _) hi.out.1.kl (by rw [set_blk (hi.out.1.keep (drewN_below wr _)).box]; rfl), (hi.out.2.1.below (drewN_below wr _)).setp _ _, .inr ⟨by decide, HF.out.symm⟩⟩⟩
              case measure => simp [intOf]; omega
        · have hjT : ¬ (j : Int) < (TS.size : Int) := by omega
          have hjt2 : j = t.length := by omega
          have HW := (show Hid (txS t (l.drop k0, 0) = (l.drop k, 0)) from by
            show _ = _
            rw [tx_whole (by have := hpre; rw [hjt2, List.take_length] at this; exact this), List.drop_drop, hkk, hjt2])
          clear hkk hpre hjt2
          go_wp2_with fail
          all_goals
            refine bodyPost_end (results_none rfl _ _ _) rfl ?_
            refine ⟨rfl, ?_, ?_⟩
            · rw [HW.out]
              exact ⟨k, hi.out.1, fun _ => rfl⟩
            · exact hi.out.2.1
      · have hfe : f9 = (txS t (l.drop k0, 0)).2 := by
          rcases hi.out.2.2 with ⟨h, -⟩ | ⟨-, h⟩
          · exact absurd h hf9
          · exact h
        have HW := (show Hid (f9 = (txS t (l.drop k0, 0)).2 ∧ f9 ≠ 0) from ⟨hfe, hf9⟩)
        clear hfe
        by_cases hjT : (j : Int) < (TS.size : Int)
        all_goals
          go_wp2_with fail
          all_goals
            refine bodyPost_end (results_none rfl _ _ _) rfl ?_
            refine ⟨rfl, ⟨k, ?_, fun h => absurd (HW.out.1.trans h) HW.out.2⟩, ?_⟩
            · rw [← HW.out.1]
              exact hi.out.1
            · exact hi.out.2.1
  · have HE := (show Hid (txS t (r, f) = (r, f)) from by
      show _ = _
      rw [txS, exS_fault hf, tkS_fault hf])
    clear hr hd hTS
    by_cases hjT : (0 : Int) < (TS.size : Int)
    all_goals
      go_enter Tryd.func21, Tryd.ntmps21
      go_wp2_with fail
      go_loopw [4] (fun i wr => i = .int .i64 0 ∧ wr = w) (fun i _ => 0)
      case atStart => exact ⟨rfl, rfl⟩
      case round =>
        obtain ⟨rfl, rfl⟩ := hrel
        go_wp2_with fail
        all_goals
          refine bodyPost_end (results_none rfl _ _ _) rfl ?_
          refine ⟨rfl, ?_, ?_⟩
          · rw [HE.out]
            exact ⟨k0, HR.out.1, fun h => absurd h hf⟩
          · exact Md.refl _ _
end Go.Proofs.YtgpjjlkkfddjnaaDoor
/-
  The document's reader of chunks: size.
-/
namespace Go.Proofs.YtgpjjlkkfddjnaaDoor
open Go.RowKit

theorem sz_end {m : List UInt8} {k : Nat} (h : dnL 8 m = k) (hk : k = m.length) : (szS (m, 0)).2 = 307 := by
  have e : m.drop k = [] := by rw [hk, List.drop_length]
  simp only [szS, h]
  rw [if_pos e]
theorem sz_none {m : List UInt8} (h : dnL 8 m = 0) (hk : 0 ≠ m.length) : (szS (m, 0)).2 = 308 := by
  have e : ¬ m.drop 0 = [] := by
    rw [List.drop_zero]
    intro e
    rw [e] at hk
    exact hk rfl
  simp only [szS, h]
  rw [if_neg e, if_pos trivial]
theorem sz_some {m : List UInt8} {k : Nat} (h : dnL 8 m = k) (hk : k ≠ m.length) (h0 : k ≠ 0) : szS (m, 0) = (m.drop k, 0) := by
  have hle := (dnL_le 8 m).2
  have e : ¬ m.drop k = [] := by
    intro e
    have := congrArg List.length e
    simp only [List.length_drop, List.length_nil] at this
    omega
  simp only [szS, h]
  rw [if_neg e, if_neg h0]
theorem num_snoc {m : List UInt8} {k : Nat} (h : k < m.length) : numL (m.take (k + 1)) = 16 * numL (m.take k) + dvN m[k] := by
  rw [List.take_succ_eq_append_getElem h]
  simp only [numL, List.foldl_append, List.foldl_cons, List.foldl_nil]
  omega
theorem num_le {m : List UInt8} {k : Nat} (h : k ≤ dnL 8 m) : numL (m.take k) < 4294967296 := by
  refine num_small (fun c hc => ?_) ?_
  · refine dg_digits (most := 8) (l := m) c ?_
    rw [show m.take k = (m.take (dnL 8 m)).take k from by rw [List.take_take]; congr; omega] at hc
    exact List.mem_of_mem_take hc
  · have := (dnL_le 8 m).1
    rw [List.length_take]
    omega
set_option maxRecDepth 20000 in
set_option maxHeartbeats 4000000 in
theorem size_any (p B : Nat) (a : Option Addr) (cap : Nat) (l : List UInt8) (k0 : Nat) (w : World) (h : Rr w p B a cap l k0 0) (hl : l.length ≤ 1000000000) :
    Calls Tryd.prog 20 #[.pointer (some ⟨p, 0, none⟩)] w fun e w' => e = .returned (.int .i64 (szN (l.drop k0, 0) : Int)) ∧ Rep w' p B a cap l (szS (l.drop k0, 0)) ∧ Md (· = p) w w' := by
  have HL := (show Hid (l.length ≤ 1000000000) from hl)
  have HR := (show Hid (Rr w p B a cap l k0 0) from h)
  obtain ⟨m, hm⟩ : ∃ m, m = l.drop k0 := ⟨_, rfl⟩
  have HM := (show Hid (m = l.drop k0 ∧ k0 ≤ l.length ∧ m.length = l.length - k0) from ⟨hm, h.kl, by rw [hm, List.length_drop]⟩)
  rw [← hm]
  clear hm h
  go_enter Tryd.func20, Tryd.ntmps20
  go_wp2_with fail
  go_loopw [3, 4] (fun v i wr => ∃ (n k : Nat), k ≤ 8 ∧ v = .int .i64 (n : Int) ∧ i = .int .i64 (k : Int) ∧ Hid (Rr wr p B a cap l (k0 + k) 0 ∧ Md (· = p) w wr ∧ k ≤ dnL 8 m ∧ n = numL (m.take k))) (fun _ i _ => 8 - (intOf i).toNat)
  case atStart => exact ⟨0, 0, by omega, rfl, rfl, ⟨HR.out, Md.refl _ _, Nat.zero_le _, by simp [numL]⟩⟩
  case round =>
    obtain ⟨n, k, hk, rfl, rfl, hi⟩ := hrel
    obtain ⟨c0, c1, c2, f1, f2⟩ := hi.out.1.cells
    have hk0 : (0 : Int) ≤ (k : Int) := by omega
    obtain ⟨q, hq⟩ : ∃ q, q = k0 + k := ⟨_, rfl⟩
    rw [← hq] at c1
    have HQ := (show Hid (q = k0 + k) from hq)
    clear hq
    have hq0 : (0 : Int) ≤ (q : Int) := by omega
    have hql : q ≤ l.length := by have := hi.out.1.kl; have := HQ.out; omega
    by_cases hgo : k < 8 ∧ ∃ h : k < m.length, isDg m[k] = true
    · obtain ⟨hm8, hkm, hd⟩ := hgo
      have HD1 := (show Hid (k + 1 ≤ dnL 8 m) from (dnL_at hi.out.2.2.1).2 ⟨hm8, hkm, hd⟩)
      have hql2 : q < l.length := by have := HQ.out; have := HM.out; omega
      have e9 : m[k] = l[q] := by
        have := HQ.out
        subst this
        have := HM.out.1
        subst this
        rw [List.getElem_drop]
      obtain ⟨b, off, rfl, hbs, hcs⟩ := hi.out.1.by_.at hql2
      have hcell := hcs q hql2
      obtain ⟨c, hc⟩ : ∃ c, c = l[q] := ⟨_, rfl⟩
      have HC := (show Hid (m[k] = c) from by rw [hc]; exact e9)
      rw [← hc] at hcell
      have hdc : isDg c = true := by rw [← HC.out]; exact hd
      have K1 := (show Hid (∀ W, Calls Tryd.prog 42 #[.int .u8 (c.toNat : Int)] W fun e w' => e = .returned (.bool true) ∧ w' = W) from fun W => by have := rdigit_any c W; rw [hdc] at this; exact this)
      have K2 := (show Hid (∀ W, Calls Tryd.prog 43 #[.int .u8 (c.toNat : Int)] W fun e w' => e = .returned (.int .i64 (dvN c : Int)) ∧ w' = W) from fun W => rDigit_any c hdc W)
      have hn9 : n < 4294967296 := by have := num_le hi.out.2.2.1; have := hi.out.2.2.2; omega
      have hn2 : 16 * n + dvN c < 4294967296 := by have := num_le HD1.out; rw [num_snoc hkm, HC.out, ← hi.out.2.2.2] at this; exact this
      clear hcs hbs hd hdc e9 hc
      have hki : (k : Int) < 8 := by omega
      have hqi : (q : Int) < (l.length : Int) := by omega
      obtain ⟨dv, hdv⟩ : ∃ dv, dv = dvN c := ⟨_, rfl⟩
      have HDV := (show Hid (dv = dvN c) from hdv)
      rw [← hdv] at K2 hn2
      clear hdv
      have h16 : IntKind.i64.wrap (16 * (n : Int)) = 16 * (n : Int) := by rw [IntKind.wrap_i64]; omega
      have h17 : IntKind.i64.wrap (16 * (n : Int) + (dv : Int)) = 16 * (n : Int) + (dv : Int) := by rw [IntKind.wrap_i64]; omega
      have h18 : IntKind.i64.wrap ((q : Int) + 1) = ((q + 1 : Nat) : Int) := by have := HL.out; rw [IntKind.wrap_i64]; omega
      have h19 : IntKind.i64.wrap ((k : Int) + 1) = ((k + 1 : Nat) : Int) := by rw [IntKind.wrap_i64]; omega
      clear hn9 hn2
      go_upto_region 3 with fail
      go_region_held3 (fun w' => w'.cell? ⟨p, 0, none⟩ = some (.slice (some ⟨b, off, none⟩) l.length cap) ∧ w'.cell? ⟨p, 1, none⟩ = some (.int .i64 (q : Int)) ∧ w'.cell? ⟨b, off + q, none⟩ = some (.int .u8 (c.toNat : Int))) (go_keep) (first
        | (go_at_call 42; (with_reducible refine Calls.mono (K1.out _) ?_); rintro e w2 ⟨rfl, rfl⟩))
      go_wp2_with fail
      go_upto_region 4 with fail
      go_region_held3 (fun w' => w'.cell? ⟨p, 0, none⟩ = some (.slice (some ⟨b, off, none⟩) l.length cap) ∧ w'.cell? ⟨p, 1, none⟩ = some (.int .i64 (q : Int)) ∧ w'.cell? ⟨b, off + q, none⟩ = some (.int .u8 (c.toNat : Int))) (go_keep) (first
        | (go_at_call 43; (with_reducible refine Calls.mono (K2.out _) ?_); rintro e w2 ⟨rfl, rfl⟩))
      go_wp2_with fail
      go_roundw
      case rel => exact ⟨16 * n + dv, k + 1, by omega, by go_num, by go_num, ⟨hi.out.1.turn ((Md.refl _ _).setp _ _).drew.drew (by have := HQ.out; omega) (by
        show (World.setCell wr ⟨p, 1, none⟩ _).heap[p]? = _
        rw [set_blk hi.out.1.box, show ((k0 + (k + 1) : Nat) : Int) = (q : Int) + 1 from by have := HQ.out; omega]
        rfl), (hi.out.2.1.setp _ _).drew.drew, HD1.out, by rw [num_snoc hkm, HC.out, ← HDV.out, ← hi.out.2.2.2]⟩⟩
      case measure => simp [intOf]; omega
    · have HD := (show Hid (dnL 8 m = k) from dg_no hi.out.2.2.1 hgo)
      have HX := (show Hid (k ≤ 8 ∧ k ≤ m.length ∧ (n : Int) = (szN (m, 0) : Int)) from ⟨hk, Nat.le_trans hi.out.2.2.1 (dnL_le 8 m).2, by rw [szN]; show _ = ((numL (m.take (dnL 8 m)) : Nat) : Int); rw [HD.out, ← hi.out.2.2.2]⟩)
      have FIN := (show Hid (∀ (W W0 : World) (f : Int), Below wr.heap.size wr W0 → W = W0.setCell ⟨p, 2, none⟩ (.int .i64 f) → (szS (m, 0)).2 = f → f ≠ 0 → Rep W p B a cap l (szS (m, 0)) ∧ Md (· = p) w W) from fun W W0 f hb e hf hf0 => by
        subst e
        have hrr := hi.out.1.turn (k' := q) (f' := f) (((Md.refl _ _).below hb).setp 2 (.int .i64 f)) (by have := hi.out.1.kl; have := HQ.out; omega) (by rw [set_blk (hi.out.1.keep hb).box, ← HQ.out]; rfl)
        refine ⟨⟨q, by rw [hf]; exact hrr, fun h => absurd (hf.symm.trans h) hf0⟩, (hi.out.2.1.below hb).setp _ _⟩)
      have FIN0 := (show Hid (∀ (W : World), Below wr.heap.size wr W → szS (m, 0) = (m.drop k, 0) → Rep W p B a cap l (szS (m, 0)) ∧ Md (· = p) w W) from fun W hb hf => by
        have hrr := hi.out.1.keep hb
        rw [hf]
        exact ⟨⟨k0 + k, hrr, fun _ => by rw [HM.out.1, List.drop_drop]⟩, hi.out.2.1.below hb⟩)
      clear hk hgo
      by_cases hk8 : k < 8
      · by_cases hkm : k < m.length
        · have hql2 : q < l.length := by have := HQ.out; have := HM.out; omega
          have e9 : m[k] = l[q] := by
            have := HQ.out
            subst this
            have := HM.out.1
            subst this
            rw [List.getElem_drop]
          obtain ⟨b, off, rfl, hbs, hcs⟩ := hi.out.1.by_.at hql2
          have hcell := hcs q hql2
          obtain ⟨c, hc⟩ : ∃ c, c = l[q] := ⟨_, rfl⟩
          have HC := (show Hid (m[k] = c) from by rw [hc]; exact e9)
          rw [← hc] at hcell
          have hdc : isDg c = false := by
            rw [← HC.out]
            cases hx : isDg m[k] with
            | false => rfl
            | true =>
              have := (dnL_at hi.out.2.2.1).2 ⟨hk8, hkm, hx⟩
              have := HD.out
              omega
          have K1 := (show Hid (∀ W, Calls Tryd.prog 42 #[.int .u8 (c.toNat : Int)] W fun e w' => e = .returned (.bool false) ∧ w' = W) from fun W => by have := rdigit_any c W; rw [hdc] at this; exact this)
          clear hcs hbs hdc e9 hc
          have hki : (k : Int) < 8 := by omega
          have hqi : (q : Int) < (l.length : Int) := by omega
          have hqne : ¬ (q : Int) = (l.length : Int) := by omega
          go_upto_region 3 with fail
          go_region_held3 (fun w' => w'.cell? ⟨p, 0, none⟩ = some (.slice (some ⟨b, off, none⟩) l.length cap) ∧ w'.cell? ⟨p, 1, none⟩ = some (.int .i64 (q : Int)) ∧ w'.cell? ⟨b, off + q, none⟩ = some (.int .u8 (c.toNat : Int))) (go_keep) (first
            | (go_at_call 42; (with_reducible refine Calls.mono (K1.out _) ?_); rintro e w2 ⟨rfl, rfl⟩))
          go_wp2_with fail
          go_quiet (fail)
          by_cases hkz : k = 0
          · have hkz2 : (k : Int) = 0 := by omega
            have HS := (show Hid ((szS (m, 0)).2 = 308) from sz_none (by rw [HD.out]; exact hkz) (by omega))
            clear hkz
            go_wp2_with fail
            go_ret
            refine ⟨by rw [HX.out.2.2]; rfl, FIN.out _ _ 308 ?_ rfl HS.out (by decide)⟩
            exact drewN_below _ _
          · have hkz2 : ¬ (k : Int) = 0 := by omega
            have HS := (show Hid (szS (m, 0) = (m.drop k, 0)) from sz_some HD.out (by omega) hkz)
            clear hkz
            go_wp2_with fail
            go_ret
            refine ⟨by rw [HX.out.2.2]; rfl, FIN0.out _ ?_ HS.out⟩
            exact drewN_below _ _
        · have hki : (k : Int) < 8 := by omega
          have hqe : q = l.length := by have := HQ.out; have := HM.out; have := HX.out.2.1; omega
          have hqe2 : (q : Int) = (l.length : Int) := by omega
          have hqlt : ¬ (q : Int) < (l.length : Int) := by omega
          have HS := (show Hid ((szS (m, 0)).2 = 307) from sz_end HD.out (by have := HX.out.2.1; omega))
          clear hqe hkm hk8 hql
          go_wp2_with fail
          go_quiet (fail)
          go_wp2_with fail
          go_quiet (fail)
          go_wp2_with fail
          go_ret
          refine ⟨by rw [HX.out.2.2]; rfl, FIN.out _ _ 307 ?_ rfl HS.out (by decide)⟩
          exact drewN_below _ _
      · obtain rfl : k = 8 := by have := HX.out.1; omega
        by_cases hqe : q = l.length
        · have hqe2 : (q : Int) = (l.length : Int) := by omega
          have HS := (show Hid ((szS (m, 0)).2 = 307) from sz_end HD.out (by have := HQ.out; have := HM.out; omega))
          clear hqe hk8 hql
          go_wp2_with fail
          go_quiet (fail)
          go_wp2_with fail
          go_quiet (fail)
          go_wp2_with fail
          go_ret
          refine ⟨by rw [HX.out.2.2]; rfl, FIN.out _ _ 307 ?_ rfl HS.out (by decide)⟩
          exact drewN_below _ _
        · have hqe2 : ¬ (q : Int) = (l.length : Int) := by omega
          have HS := (show Hid (szS (m, 0) = (m.drop 8, 0)) from sz_some HD.out (by have := HQ.out; have := HM.out; have := hi.out.1.kl; omega) (by decide))
          clear hqe hk8 hql
          go_wp2_with fail
          go_quiet (fail)
          go_wp2_with fail
          go_quiet (fail)
          go_wp2_with fail
          go_ret
          refine ⟨by rw [HX.out.2.2]; rfl, FIN0.out _ ?_ HS.out⟩
          exact drewN_below _ _
end Go.Proofs.YtgpjjlkkfddjnaaDoor
/-
  The document's reader of chunks: name.
-/
namespace Go.Proofs.YtgpjjlkkfddjnaaDoor
open Go.RowKit

set_option maxRecDepth 20000 in
set_option maxHeartbeats 4000000 in
theorem name_any (p B : Nat) (a : Option Addr) (cap : Nat) (l : List UInt8) (s : RS) (w : World) (h : Rep w p B a cap l s) (hl : l.length ≤ 1000000000) (hcap : l.length ≤ cap) :
    Calls Tryd.prog 22 #[.pointer (some ⟨p, 0, none⟩)] w fun e w' => (∃ S : List UInt8, e = .returned (.string ⟨S.toArray⟩) ∧ S.length ≤ 1000000000 ∧ ((dgS 64 64 s).2.2 = 0 → S = (dgS 64 64 s).1)) ∧ Rep w' p B a cap l (dgS 64 64 s).2 ∧ Md (· = p) w w' := by
  obtain ⟨k0, hr, hd⟩ := h
  obtain ⟨r, f⟩ := s
  simp only at hr hd
  have HL := (show Hid (l.length ≤ 1000000000 ∧ l.length ≤ cap) from ⟨hl, hcap⟩)
  have HR := (show Hid (Rr w p B a cap l k0 f) from hr)
  obtain ⟨c0, c1, c2, f1, f2⟩ := hr.cells
  -- the end: the text of what was read
  have FIN := (show Hid (∀ (W : World) (k : Nat) (f9 : Int), Rr W p B a cap l k f9 → Md (· = p) w W → k0 ≤ k → (dgS 64 64 (r, f)).2.2 = f9 → (f9 = 0 → dgS 64 64 (r, f) = ((l.drop k0).take (k - k0), (l.drop k, 0))) → (∃ S : List UInt8, (Ending.returned (.string ⟨((l.drop k0).take (k - k0)).toArray⟩)) = .returned (.string ⟨S.toArray⟩) ∧ S.length ≤ 1000000000 ∧ ((dgS 64 64 (r, f)).2.2 = 0 → S = (dgS 64 64 (r, f)).1)) ∧ Rep W p B a cap l (dgS 64 64 (r, f)).2 ∧ Md (· = p) w W) from fun W k f9 hrr hmd hk hf hf0 => by
    refine ⟨⟨_, rfl, ?_, ?_⟩, ⟨k, by rw [hf]; exact hrr, ?_⟩, hmd⟩
    · rw [List.length_take, List.length_drop]
      omega
    · intro h0
      rw [hf0 (hf.symm.trans h0)]
    · intro h0
      rw [hf0 (hf.symm.trans h0)])
  have CV := (show Hid (∀ (W : World) (k : Nat), Rr W p B a cap l k 0 ∨ (∃ f9, Rr W p B a cap l k f9) → k0 ≤ k → (convert 22 9 (.slice (fromA a cap k0) (k - k0) (cap - k0))).run Tryd.prog W = .ok (.string ⟨((l.drop k0).take (k - k0)).toArray⟩) W) from fun W k hk hk0 => by
    have hB : Bytes W a l := by rcases hk with hk | ⟨_, hk⟩ <;> exact hk.by_
    have hkl : k ≤ l.length := by rcases hk with hk | ⟨_, hk⟩ <;> exact hk.kl
    have := convert_bytes W (fromA a cap k0) (cap - k0) ((l.drop k0).take (k - k0)) (bytes_take _ (bytes_from hB hcap))
    rw [show ((l.drop k0).take (k - k0)).length = k - k0 from by rw [List.length_take, List.length_drop]; omega] at this
    exact this)
  by_cases hf : f = 0
  · subst hf
    have hdr := hd rfl
    subst hdr
    obtain ⟨m, hm⟩ : ∃ m, m = l.drop k0 := ⟨_, rfl⟩
    have HM := (show Hid (m = l.drop k0 ∧ k0 ≤ l.length ∧ m.length = l.length - k0) from ⟨hm, hr.kl, by rw [hm, List.length_drop]⟩)
    rw [← hm] at FIN CV ⊢
    clear hm hr hd
    go_enter Tryd.func22, Tryd.ntmps22
    go_wp2_with fail
    go_loopw [4] (fun i wr => ∃ (j k : Nat) (f9 : Int), j ≤ 65 ∧ i = .int .i64 (j : Int) ∧ Hid (Rr wr p B a cap l k f9 ∧ Md (· = p) w wr ∧ k0 ≤ k ∧ ((f9 = 0 ∧ j ≤ dnL 64 m ∧ k = k0 + j) ∨ (f9 ≠ 0 ∧ f9 = (dgS 64 64 (m, 0)).2.2))) ∧ (f9 = 0 → j ≤ 64)) (fun i _ => 65 - (intOf i).toNat)
    case atStart => exact ⟨0, k0, 0, by omega, rfl, ⟨HR.out, Md.refl _ _, Nat.le_refl _, .inl ⟨rfl, Nat.zero_le _, rfl⟩⟩, fun _ => by omega⟩
    case round =>
      obtain ⟨j, k, f9, hj, rfl, hi, hj64⟩ := hrel
      clear c0 c1 c2 f1 f2
      obtain ⟨c0, c1, c2, f1, f2⟩ := hi.out.1.cells
      have hj9 : (j : Int) < 1000 := by omega
      have hj0 : (0 : Int) ≤ (j : Int) := by omega
      have hk00 : (0 : Int) ≤ (k0 : Int) := by omega
      by_cases hf9 : f9 = 0
      · subst hf9
        have hcase : j ≤ dnL 64 m ∧ k = k0 + j := by
          rcases hi.out.2.2.2 with ⟨-, h⟩ | ⟨h, -⟩
          · exact h
          · exact absurd rfl h
        have HC := (show Hid (j ≤ dnL 64 m ∧ k = k0 + j) from hcase)
        have hj64' := hj64 rfl
        clear hcase hj64
        by_cases hlt : j < 64
        · have hji : (j : Int) < 64 := by omega
          by_cases hkl : k = l.length
          · have hkli : (k : Int) = (l.length : Int) := by omega
            have HF := (show Hid ((dgS 64 64 (m, 0)).2.2 = 307) from by
              have h1 := HC.out
              have h2 := HM.out
              have h3 := dnL_le 64 m
              exact (nm_cases m).2.1 (by omega) (by omega))
            clear hkl
            go_wp2_with fail
            go_quiet (fail)
            go_wp2_with fail
            go_roundw
            case rel => exact ⟨j + 1, k, 307, by omega, by go_num, ⟨(hi.out.1.keep (drewN_below wr _)).turn (Md.setp (Md.refl _ _) _ _) hi.out.1.kl (by rw [set_blk (hi.out.1.keep (drewN_below wr _)).box]; rfl), (hi.out.2.1.below (drewN_below wr _)).setp _ _, hi.out.2.2.1, .inr ⟨by decide, HF.out.symm⟩⟩, fun h => by cases h⟩
            case measure => simp [intOf]; omega
          · have hkl2 : k < l.length := by have := hi.out.1.kl; omega
            have hkli : (k : Int) < (l.length : Int) := by omega
            have hkne : ¬ (k : Int) = (l.length : Int) := by omega
            have hk0 : (0 : Int) ≤ (k : Int) := by omega
            have hjm : j < m.length := by have := HC.out; have := HM.out; omega
            have e9 : m[j] = l[k] := by
              have := HC.out.2
              subst this
              have := HM.out.1
              subst this
              rw [List.getElem_drop]
            obtain ⟨b, off, rfl, hbs, hcs⟩ := hi.out.1.by_.at hkl2
            have hcell := hcs k hkl2
            obtain ⟨c, hc⟩ : ∃ c, c = l[k] := ⟨_, rfl⟩
            have HK := (show Hid (m[j] = c) from by rw [hc]; exact e9)
            rw [← hc] at hcell
            have h16 : IntKind.i64.wrap ((k : Int) + 1) = ((k + 1 : Nat) : Int) := by have := HL.out.1; rw [IntKind.wrap_i64]; omega
            clear hcs hbs e9 hc hkl
            by_cases hdc : isDg c = true
            · have HD1 := (show Hid (j + 1 ≤ dnL 64 m) from (dnL_at HC.out.1).2 ⟨hlt, hjm, by rw [HK.out]; exact hdc⟩)
              have K1 := (show Hid (∀ W, Calls Tryd.prog 42 #[.int .u8 (c.toNat : Int)] W fun e w' => e = .returned (.bool true) ∧ w' = W) from fun W => by have := rdigit_any c W; rw [hdc] at this; exact this)
              clear hdc
              go_wp2_with fail
              go_quiet (fail)
              go_wp2_with fail
              go_upto_region 8 with fail
              go_region_held3 (fun w' => w'.cell? ⟨p, 0, none⟩ = some (.slice (some ⟨b, off, none⟩) l.length cap) ∧ w'.cell? ⟨p, 1, none⟩ = some (.int .i64 (k : Int)) ∧ w'.cell? ⟨b, off + k, none⟩ = some (.int .u8 (c.toNat : Int))) (go_keep) (first
                | (go_at_call 42; (with_reducible refine Calls.mono (K1.out _) ?_); rintro e w2 ⟨rfl, rfl⟩))
              go_wp2_with fail
              go_roundw
              case rel => exact ⟨j + 1, k + 1, 0, by omega, by go_num, ⟨(hi.out.1.keep (drewN_below wr _)).turn (Md.setp (Md.refl _ _) _ _) hkl2 (by rw [set_blk (hi.out.1.keep (drewN_below wr _)).box]; rfl), (hi.out.2.1.below (drewN_below wr _)).setp _ _, by have := hi.out.2.2.1; omega, .inl ⟨rfl, HD1.out, by have := HC.out.2; omega⟩⟩, fun _ => by omega⟩
              case measure => simp [intOf]; omega
            · have hdc2 : isDg c = false := by
                cases hx : isDg c with
                | false => rfl
                | true => exact absurd hx hdc
              have HDE := (show Hid (dnL 64 m = j) from dg_no HC.out.1 (fun ⟨_, h2, h3⟩ => by rw [HK.out] at h3; exact hdc h3))
              have K1 := (show Hid (∀ W, Calls Tryd.prog 42 #[.int .u8 (c.toNat : Int)] W fun e w' => e = .returned (.bool false) ∧ w' = W) from fun W => by have := rdigit_any c W; rw [hdc2] at this; exact this)
              have HF := (show Hid ((dgS 64 64 (m, 0)).2.2 = 308) from (nm_cases m).2.2 (by rw [HDE.out]; exact hlt) (by rw [HDE.out]; omega))
              clear hdc hdc2
              go_wp2_with fail
              go_quiet (fail)
              go_wp2_with fail
              go_upto_region 8 with fail
              go_region_held3 (fun w' => w'.cell? ⟨p, 0, none⟩ = some (.slice (some ⟨b, off, none⟩) l.length cap) ∧ w'.cell? ⟨p, 1, none⟩ = some (.int .i64 (k : Int)) ∧ w'.cell? ⟨b, off + k, none⟩ = some (.int .u8 (c.toNat : Int))) (go_keep) (first
                | (go_at_call 42; (with_reducible refine Calls.mono (K1.out _) ?_); rintro e w2 ⟨rfl, rfl⟩))
              go_wp2_with fail
              go_roundw
              case rel => exact ⟨j + 1, k, 308, by omega, by go_num, ⟨(hi.out.1.keep (drewN_below wr _)).turn (Md.setp (Md.refl _ _) _ _) hi.out.1.kl (by rw [set_blk (hi.out.1.keep (drewN_below wr _)).box]; rfl), (hi.out.2.1.below (drewN_below wr _)).setp _ _, hi.out.2.2.1, .inr ⟨by decide, HF.out.symm⟩⟩, fun h => by cases h⟩
              case measure => simp [intOf]; omega
        · obtain rfl : j = 64 := by omega
          have HW := (show Hid (dgS 64 64 (m, 0) = (m.take (k - k0), (l.drop k, 0))) from by
            have h1 := HC.out
            have h2 := (dnL_le 64 m).1
            show _ = _
            rw [(nm_cases m).1 (by omega), show k - k0 = 64 from by omega, HM.out.1, List.drop_drop, h1.2])
          have hkk := hi.out.2.2.1
          have hkl := hi.out.1.kl
          have hkc : k ≤ cap := Nat.le_trans hkl HL.out.2
          have hki1 : (k0 : Int) ≤ (k : Int) := by omega
          have hki2 : (k : Int) ≤ (cap : Int) := by omega
          have hki0 : (0 : Int) ≤ (k : Int) := by omega
          clear hlt hj64'
          have hck : ¬ cap = k0 := by have := HC.out.2; omega
          obtain ⟨b, off, rfl, hbs, hcs⟩ := hi.out.1.by_.at (k := 0) (by have := HC.out.2; omega)
          clear hbs hcs
          have KC2 := (show Hid (∀ W, Below wr.heap.size wr W → (convert 22 9 (.slice (some ⟨b, off + k0, none⟩) (k - k0) (cap - k0))).run Tryd.prog W = .ok (.string ⟨(m.take (k - k0)).toArray⟩) W) from fun W hb => by have := CV.out W k (.inr ⟨_, hi.out.1.keep hb⟩) hi.out.2.2.1; rw [fromA, if_neg hck, Option.map_some, Addr.add_lit] at this; exact this)
          obtain ⟨TX, hTX⟩ : ∃ TX : ByteArray, TX = ⟨(m.take (k - k0)).toArray⟩ := ⟨_, rfl⟩
          have HTX := (show Hid (TX = ⟨(m.take (k - k0)).toArray⟩) from hTX)
          rw [← hTX] at KC2
          clear hTX
          go_wp2_with fail
          go_upto_region 10 with fail
          have hcv0 := KC2.out wr.drew ((Below.refl _ _).drew)
          go_region_held3 (fun w' => w'.cell? ⟨p, 0, none⟩ = some (.slice (some ⟨b, off, none⟩) l.length cap) ∧ w'.cell? ⟨p, 1, none⟩ = some (.int .i64 (k : Int)) ∧ (convert 22 9 (.slice (some ⟨b, off + k0, none⟩) (k - k0) (cap - k0))).run Tryd.prog w' = .ok (.string TX) w') (go_keep) (fail)
          go_wp2_with fail
          go_ret
          rw [HTX.out]
          refine FIN.out wr.drew k 0 (hi.out.1.keep (Below.refl _ _).drew) hi.out.2.1.drew hi.out.2.2.1 (by rw [HW.out]) (fun _ => by rw [HW.out])
      · have hfe : f9 = (dgS 64 64 (m, 0)).2.2 := by
          rcases hi.out.2.2.2 with ⟨h, -⟩ | ⟨-, h⟩
          · exact absurd h hf9
          · exact h
        have HW := (show Hid (f9 = (dgS 64 64 (m, 0)).2.2 ∧ f9 ≠ 0) from ⟨hfe, hf9⟩)
        have hkk := hi.out.2.2.1
        have hkl := hi.out.1.kl
        have hkc : k ≤ cap := Nat.le_trans hkl HL.out.2
        have hki1 : (k0 : Int) ≤ (k : Int) := by omega
        have hki2 : (k : Int) ≤ (cap : Int) := by omega
        have hki0 : (0 : Int) ≤ (k : Int) := by omega
        clear hfe hj64
        by_cases hlt : (j : Int) < 64
        all_goals
          go_wp2_with fail
          go_upto_region 10 with fail
          by_cases hck : cap = k0
          · have hkc2 : k = cap := by omega
            subst hkc2
            subst hck
            have KC2 := (show Hid (∀ W, Below wr.heap.size wr W → (convert 22 9 (.slice a 0 0)).run Tryd.prog W = .ok (.string ⟨(m.take (k - k)).toArray⟩) W) from fun W hb => by
              have := CV.out W k (.inr ⟨_, hi.out.1.keep hb⟩) hi.out.2.2.1
              rw [fromA, if_pos rfl] at this
              rw [Nat.sub_self] at this ⊢
              exact this)
            obtain ⟨TX, hTX⟩ : ∃ TX : ByteArray, TX = ⟨(m.take (k - k)).toArray⟩ := ⟨_, rfl⟩
            have HTX := (show Hid (TX = ⟨(m.take (k - k)).toArray⟩) from hTX)
            rw [← hTX] at KC2
            clear hTX
            have hcv0 := KC2.out wr.drew ((Below.refl _ _).drew)
            go_region_held3 (fun w' => w'.cell? ⟨p, 0, none⟩ = some (.slice a l.length k) ∧ w'.cell? ⟨p, 1, none⟩ = some (.int .i64 (k : Int)) ∧ (convert 22 9 (.slice a 0 0)).run Tryd.prog w' = .ok (.string TX) w') (go_keep) (fail)
            go_wp2_with fail
            go_ret
            rw [HTX.out]
            refine FIN.out wr.drew k f9 (hi.out.1.keep (Below.refl _ _).drew) hi.out.2.1.drew hi.out.2.2.1 HW.out.1.symm (fun h => absurd h HW.out.2)
          · have KC2 := (show Hid (∀ W, Below wr.heap.size wr W → (convert 22 9 (.slice (Option.map (fun x => x.add k0) a) (k - k0) (cap - k0))).run Tryd.prog W = .ok (.string ⟨(m.take (k - k0)).toArray⟩) W) from fun W hb => by have := CV.out W k (.inr ⟨_, hi.out.1.keep hb⟩) hi.out.2.2.1; rw [fromA, if_neg hck] at this; exact this)
            obtain ⟨TX, hTX⟩ : ∃ TX : ByteArray, TX = ⟨(m.take (k - k0)).toArray⟩ := ⟨_, rfl⟩
            have HTX := (show Hid (TX = ⟨(m.take (k - k0)).toArray⟩) from hTX)
            rw [← hTX] at KC2
            clear hTX
            have hcv0 := KC2.out wr.drew ((Below.refl _ _).drew)
            go_region_held3 (fun w' => w'.cell? ⟨p, 0, none⟩ = some (.slice a l.length cap) ∧ w'.cell? ⟨p, 1, none⟩ = some (.int .i64 (k : Int)) ∧ (convert 22 9 (.slice (Option.map (fun x => x.add k0) a) (k - k0) (cap - k0))).run Tryd.prog w' = .ok (.string TX) w') (go_keep) (fail)
            go_wp2_with fail
            go_ret
            rw [HTX.out]
            refine FIN.out wr.drew k f9 (hi.out.1.keep (Below.refl _ _).drew) hi.out.2.1.drew hi.out.2.2.1 HW.out.1.symm (fun h => absurd h HW.out.2)
  · have HW := (show Hid ((dgS 64 64 (r, f)).2.2 = f ∧ f ≠ 0) from ⟨by rw [dgS, exS_fault hf, tkS_fault hf], hf⟩)
    have hkl := hr.kl
    have hkc : k0 ≤ cap := by omega
    have hki2 : (k0 : Int) ≤ (cap : Int) := by omega
    have hki0 : (0 : Int) ≤ (k0 : Int) := by omega
    clear hr hd
    go_enter Tryd.func22, Tryd.ntmps22
    go_wp2_with fail
    go_loopw [4] (fun i wr => i = .int .i64 0 ∧ wr = w) (fun i _ => 0)
    case atStart => exact ⟨rfl, rfl⟩
    case round =>
      obtain ⟨rfl, rfl⟩ := hrel
      go_wp2_with fail
      go_upto_region 10 with fail
      by_cases hck : cap = k0
      · subst hck
        have KC2 := (show Hid (∀ W, Below wr.heap.size wr W → (convert 22 9 (.slice a 0 0)).run Tryd.prog W = .ok (.string ⟨((l.drop cap).take (cap - cap)).toArray⟩) W) from fun W hb => by
          have := CV.out W cap (.inr ⟨_, HR.out.keep hb⟩) (Nat.le_refl _)
          rw [fromA, if_pos rfl] at this
          rw [Nat.sub_self] at this ⊢
          exact this)
        obtain ⟨TX, hTX⟩ : ∃ TX : ByteArray, TX = ⟨((l.drop cap).take (cap - cap)).toArray⟩ := ⟨_, rfl⟩
        have HTX := (show Hid (TX = ⟨((l.drop cap).take (cap - cap)).toArray⟩) from hTX)
        rw [← hTX] at KC2
        clear hTX
        have hcv0 := KC2.out wr.drew ((Below.refl _ _).drew)
        go_region_held3 (fun w' => w'.cell? ⟨p, 0, none⟩ = some (.slice a l.length cap) ∧ w'.cell? ⟨p, 1, none⟩ = some (.int .i64 (cap : Int)) ∧ (convert 22 9 (.slice a 0 0)).run Tryd.prog w' = .ok (.string TX) w') (go_keep) (fail)
        go_wp2_with fail
        go_ret
        rw [HTX.out]
        refine FIN.out wr.drew cap f (HR.out.keep (Below.refl _ _).drew) (Md.refl _ _).drew (Nat.le_refl _) HW.out.1 (fun h => absurd h HW.out.2)
      · have KC2 := (show Hid (∀ W, Below wr.heap.size wr W → (convert 22 9 (.slice (Option.map (fun x => x.add k0) a) 0 (cap - k0))).run Tryd.prog W = .ok (.string ⟨((l.drop k0).take (k0 - k0)).toArray⟩) W) from fun W hb => by
          have := CV.out W k0 (.inr ⟨_, HR.out.keep hb⟩) (Nat.le_refl _)
          rw [fromA, if_neg hck] at this
          rw [Nat.sub_self] at this ⊢
          exact this)
        obtain ⟨TX, hTX⟩ : ∃ TX : ByteArray, TX = ⟨((l.drop k0).take (k0 - k0)).toArray⟩ := ⟨_, rfl⟩
        have HTX := (show Hid (TX = ⟨((l.drop k0).take (k0 - k0)).toArray⟩) from hTX)
        rw [← hTX] at KC2
        clear hTX
        have hcv0 := KC2.out wr.drew ((Below.refl _ _).drew)
        go_region_held3 (fun w' => w'.cell? ⟨p, 0, none⟩ = some (.slice a l.length cap) ∧ w'.cell? ⟨p, 1, none⟩ = some (.int .i64 (k0 : Int)) ∧ (convert 22 9 (.slice (Option.map (fun x => x.add k0) a) 0 (cap - k0))).run Tryd.prog w' = .ok (.string TX) w') (go_keep) (fail)
        go_wp2_with fail
        go_ret
        rw [HTX.out]
        refine FIN.out wr.drew k0 f (HR.out.keep (Below.refl _ _).drew) (Md.refl _ _).drew (Nat.le_refl _) HW.out.1 (fun h => absurd h HW.out.2)
end Go.Proofs.YtgpjjlkkfddjnaaDoor
/-
  The document's reader of chunks: a chunk, against the code's.
-/
namespace Go.Proofs.YtgpjjlkkfddjnaaDoor
open Go.RowKit

theorem dgS_fault {a b : Nat} {s : RS} (h : s.2 ≠ 0) : dgS a b s = ([], s) := by rw [dgS, exS_fault h, tkS_fault h]
theorem txS_fault {t : List UInt8} {s : RS} (h : s.2 ≠ 0) : txS t s = s := by rw [txS, exS_fault h, tkS_fault h]
/-- The reader behind the first line of a chunk, as the document reads it. -/
def hdS (l : List UInt8) : RS := txS crT (dgS 64 64 (txS sigT (szS (l, 0)))).2
def nmL (l : List UInt8) : List UInt8 := (dgS 64 64 (txS sigT (szS (l, 0)))).1
theorem ck_ref (l : List UInt8) : ((hdS l).2 ≠ 0 → (ckS (l, 0)).s.2 = (hdS l).2) ∧
    ((hdS l).2 = 0 → (ckS (l, 0)).sig = nmL l ∧ ((hdS l).1.length < szN (l, 0) → (ckS (l, 0)).s.2 = 307) ∧
      (szN (l, 0) ≤ (hdS l).1.length → (ckS (l, 0)).data = (hdS l).1.take (szN (l, 0)) ∧
        (ckS (l, 0)).s = if szN (l, 0) = 0 then exS (decide ((txS crT ((hdS l).1.drop (szN (l, 0)), 0)).1 = [])) (txS crT ((hdS l).1.drop (szN (l, 0)), 0)) else txS crT ((hdS l).1.drop (szN (l, 0)), 0))) := by
  obtain ⟨⟨e1, e2⟩, e3⟩ := sz_alk l
  by_cases hq : (txS sigT (szS (l, 0))).2 = 0
  · have eq : txS sigT (szS (l, 0)) = txS sigT (dgS 1 8 (l, 0)).2 := Prod.ext (e2 hq) e1
    have en := e3 hq
    have eh : hdS l = txS crT (dgS 64 64 (txS sigT (dgS 1 8 (l, 0)).2)).2 := by rw [hdS, eq]
    have es : nmL l = (dgS 64 64 (txS sigT (dgS 1 8 (l, 0)).2)).1 := by rw [nmL, eq]
    have ed : (ckS (l, 0)).data = (tkS (szN (l, 0)) (hdS l)).1 := by rw [en, eh]; rfl
    have eg : (ckS (l, 0)).sig = nmL l := by rw [es]; rfl
    have ey : (ckS (l, 0)).s = if szN (l, 0) = 0 then exS (decide ((txS crT (tkS (szN (l, 0)) (hdS l)).2).1 = [])) (txS crT (tkS (szN (l, 0)) (hdS l)).2) else txS crT (tkS (szN (l, 0)) (hdS l)).2 := by
      rw [en, eh]
      rfl
    constructor
    · intro h0
      rw [ey, tkS_fault h0]
      simp only
      rw [txS_fault h0, exS_fault h0]
      split <;> rfl
    · intro h0
      refine ⟨eg, fun hlt => ?_, fun hle => ?_⟩
      · have et : tkS (szN (l, 0)) (hdS l) = ([], ((hdS l).1, 307)) := by rw [tkS, if_pos h0, if_pos hlt]
        have hf : (((hdS l).1, (307 : Int)) : RS).2 ≠ 0 := by show (307 : Int) ≠ 0; decide
        rw [ey, et]
        simp only
        rw [txS_fault hf, exS_fault hf]
        split <;> rfl
      · have et : tkS (szN (l, 0)) (hdS l) = ((hdS l).1.take (szN (l, 0)), ((hdS l).1.drop (szN (l, 0)), 0)) := by rw [tkS, if_pos h0, if_neg (by omega)]
        rw [ed, ey, et]
        exact ⟨rfl, rfl⟩
  · have hq' : (txS sigT (dgS 1 8 (l, 0)).2).2 ≠ 0 := by rw [← e1]; exact hq
    have eh : hdS l = txS sigT (szS (l, 0)) := by rw [hdS, dgS_fault hq]; exact txS_fault hq
    refine ⟨fun _ => ?_, fun h => absurd (by rw [eh] at h; exact h) hq⟩
    rw [eh, e1]
    have ey : (ckS (l, 0)).s = (let e := txS crT (tkS (numL (dgS 1 8 (l, 0)).1) (txS crT (dgS 64 64 (txS sigT (dgS 1 8 (l, 0)).2)).2)).2; if numL (dgS 1 8 (l, 0)).1 = 0 then exS (decide (e.1 = [])) e else e) := rfl
    rw [ey, dgS_fault hq']
    simp only
    rw [txS_fault hq', tkS_fault hq']
    simp only
    rw [txS_fault hq', exS_fault hq']
    split <;> rfl
theorem hd_rest (m : List UInt8) : (hdS m).1.length ≤ m.length := by
  have h1 := tx_rest crT (dgS 64 64 (txS sigT (szS (m, 0)))).2
  have h2 := dg_rest 64 64 (txS sigT (szS (m, 0)))
  have h3 := tx_rest sigT (szS (m, 0))
  have h4 : (szS (m, 0)).1.length ≤ m.length := by
    unfold szS
    split
    · simp
    · split
      · exact Nat.le_refl _
      · simp
  unfold hdS
  omega
theorem hd_nil : (hdS []).2 = 307 := by rfl
theorem cr_nil : txS crT ([], 0) = ([], 307) := by rfl
theorem szN_le (l : List UInt8) : szN (l, 0) < 4294967296 := num_le (Nat.le_refl _)
end Go.Proofs.YtgpjjlkkfddjnaaDoor
/-
  The document's hexadecimal digits, sums and signatures.
-/
namespace Go.Proofs.YtgpjjlkkfddjnaaDoor
open Go.RowKit

theorem rdig_fin : ∀ d : Fin 16, ((⟨#[48, 49, 50, 51, 52, 53, 54, 55, 56, 57, 97, 98, 99, 100, 101, 102]⟩ : ByteArray).extract d.val (d.val + 1)).data.toList = [hxC d.val] := by decide
theorem rdig_at {n : Nat} (h : n < 16) : (⟨#[48, 49, 50, 51, 52, 53, 54, 55, 56, 57, 97, 98, 99, 100, 101, 102]⟩ : ByteArray).extract n (n + 1) = ⟨#[hxC n]⟩ := by
  have e := rdig_fin ⟨n, h⟩
  simp only at e
  have e2 : ((⟨#[48, 49, 50, 51, 52, 53, 54, 55, 56, 57, 97, 98, 99, 100, 101, 102]⟩ : ByteArray).extract n (n + 1)).data = #[hxC n] := by
    rw [← Array.toArray_toList (xs := ((⟨#[48, 49, 50, 51, 52, 53, 54, 55, 56, 57, 97, 98, 99, 100, 101, 102]⟩ : ByteArray).extract n (n + 1)).data), e]
  generalize (⟨#[48, 49, 50, 51, 52, 53, 54, 55, 56, 57, 97, 98, 99, 100, 101, 102]⟩ : ByteArray).extract n (n + 1) = b at e2
  cases b
  simp only at e2
  rw [e2]
theorem h2_is_fin : ∀ d : Fin 256, h2 (UInt8.ofNat d.val) = [hxC (d.val / 16), hxC (d.val % 16)] := by decide +kernel
theorem h2_is (c : UInt8) : h2 c = [hxC (c.toNat / 16), hxC (c.toNat % 16)] := by
  have := h2_is_fin ⟨c.toNat, c.toNat_lt⟩
  simpa using this
set_option maxHeartbeats 1000000 in
theorem rdig_any (n : Nat) (h : n < 16) (w : World) : Calls Tryd.prog 54 #[.int .i64 (n : Int)] w fun e w' => e = .returned (.string ⟨#[hxC n]⟩) ∧ w' = w := by
  have HE := (show Hid _ from rdig_at h)
  have h1 : (n : Int) < 16 := by omega
  have h0 : (0 : Int) ≤ (n : Int) := by omega
  go_enter Tryd.func54, Tryd.ntmps54
  go_wp2
  go_ret
  refine ⟨?_, rfl⟩
  rw [HE.out]
  rfl
set_option maxRecDepth 20000 in
set_option maxHeartbeats 2000000 in
theorem rhex_any (a : Option Addr) (l : List UInt8) (cap : Nat) (w : World) (hB : Bytes w a l) (hl : l.length ≤ 1000000000) :
    Calls Tryd.prog 28 #[.slice a l.length cap] w fun e w' => e = .returned (.string ⟨(hexL l).toArray⟩) ∧ Below w.heap.size w w' := by
  have HB := (show Hid (Bytes w a l) from hB)
  have HL := (show Hid (l.length ≤ 1000000000) from hl)
  have HD := (show Hid (∀ n : Nat, n < 16 → ∀ W, Calls Tryd.prog 54 #[.int .i64 (n : Int)] W fun e w' => e = .returned (.string ⟨#[hxC n]⟩) ∧ w' = W) from fun n h W => rdig_any n h W)
  clear hB
  go_enter Tryd.func28, Tryd.ntmps28
  go_wp2_with fail
  go_loopw [3, 4] (fun s i wr => ∃ (k : Nat) (S : ByteArray), k ≤ l.length ∧ i = .int .i64 (k : Int) ∧ s = .string S ∧ Hid (S = ⟨(hexL (l.take k)).toArray⟩ ∧ Below w.heap.size w wr)) (fun _ i _ => l.length - (intOf i).toNat)
  case atStart => exact ⟨0, _, Nat.zero_le _, rfl, rfl, ⟨rfl, Below.refl _ _⟩⟩
  case round =>
    obtain ⟨k, S, hk, rfl, rfl, hi⟩ := hrel
    by_cases hlt : k < l.length
    · have hki : (k : Int) < (l.length : Int) := by omega
      have hk0 : (0 : Int) ≤ (k : Int) := by omega
      have hk9 : (k : Int) < 10000000000 := by omega
      obtain ⟨b, off, rfl, hbs, hcs⟩ := (HB.out.below hi.out.2 (Nat.le_refl _)).at hlt
      have hcell := hcs k hlt
      have hsnoc := hexL_snoc l k hlt
      obtain ⟨c, hc⟩ : ∃ c, c = l[k] := ⟨_, rfl⟩
      rw [← hc] at hcell hsnoc
      rw [h2_is] at hsnoc
      have hc256 := c.toNat_lt
      obtain ⟨m, hm⟩ : ∃ m, m = c.toNat := ⟨_, rfl⟩
      rw [← hm] at hcell hsnoc hc256
      have HSN := (show Hid _ from hsnoc)
      have hSz : S.size ≤ 2000000000 := by
        rw [hi.out.1]
        have e : (⟨(hexL (l.take k)).toArray⟩ : ByteArray).size = (hexL (l.take k)).length := by simp [ByteArray.size]
        rw [e, hexL_length, List.length_take]
        omega
      have D1 := (show Hid (∀ W (z : Int), z = (m : Int) / 16 → Calls Tryd.prog 54 #[.int .i64 z] W fun e w' => e = .returned (.string ⟨#[hxC (m / 16)]⟩) ∧ w' = W) from fun W z hz => by
        have := HD.out (m / 16) (by omega) W
        rw [show ((m / 16 : Nat) : Int) = z from by omega] at this
        exact this)
      have D2 := (show Hid (∀ W (z : Int), z = (m : Int) % 16 → Calls Tryd.prog 54 #[.int .i64 z] W fun e w' => e = .returned (.string ⟨#[hxC (m % 16)]⟩) ∧ w' = W) from fun W z hz => by
        have := HD.out (m % 16) (Nat.mod_lt _ (by omega)) W
        rw [show ((m % 16 : Nat) : Int) = z from by omega] at this
        exact this)
      have hq1 : ¬ (S.size + 1 > 9223372036854775807) := by omega
      have hq2 : ¬ (S.size + 1 + 1 > 9223372036854775807) := by omega
      have hm256 : (m : Int) < 256 := by omega
      have hm0 : (0 : Int) ≤ (m : Int) := by omega
      have hwm : IntKind.i64.wrap (m : Int) = (m : Int) := by rw [IntKind.wrap_i64]; omega
      have hwd : IntKind.i64.wrap ((m : Int).tdiv 16) = (m : Int) / 16 := by rw [Int.tdiv_eq_ediv_of_nonneg hm0, IntKind.wrap_i64]; omega
      have hwd2 : IntKind.i64.wrap ((m : Int) / 16) = (m : Int) / 16 := by rw [IntKind.wrap_i64]; omega
      have hwt : (m : Int).tmod 16 = (m : Int) % 16 := Int.tmod_eq_emod_of_nonneg hm0
      clear hcs hc hm hsnoc hSz hc256
      go_upto_region 5 with fail
      go_region_held3 (fun w' => w'.cell? ⟨b, off + k, none⟩ = some (.int .u8 (m : Int))) (go_keep) (first
        | (go_at_call 54; (with_reducible refine Calls.mono (D1.out _ _ rfl) ?_); rintro e w2 ⟨rfl, rfl⟩)
        | (go_at_call 54; (with_reducible refine Calls.mono (D2.out _ _ rfl) ?_); rintro e w2 ⟨rfl, rfl⟩))
      go_wp2_with fail
      go_roundw
      case rel => exact ⟨k + 1, _, by omega, by go_num, rfl, ⟨by rw [hi.out.1, HSN.out]; apply ByteArray.ext; simp, hi.out.2.drew⟩⟩
      case measure => simp [intOf]; omega
    · obtain rfl : k = l.length := by omega
      have HR := (show Hid (S = ⟨(hexL l).toArray⟩) from by have := hi.out.1; rw [List.take_length] at this; exact this)
      go_wp2_with fail
      go_ret
      exact ⟨by rw [HR.out]; rfl, hi.out.2⟩
end Go.Proofs.YtgpjjlkkfddjnaaDoor
/-
  The document's Sum and Sign.
-/
namespace Go.Proofs.YtgpjjlkkfddjnaaDoor
open Go.RowKit

set_option maxHeartbeats 1000000 in
theorem rsum_any (l : List UInt8) (w : World) (hl : l.length ≤ 1000000000) :
    Calls Tryd.prog 27 #[.string ⟨l.toArray⟩] w fun e w' => e = .returned (.string ⟨(hexL (shaL l)).toArray⟩) ∧ Below w.heap.size w w' := by
  obtain ⟨W1, c1, hcv, hB, hb1, hc1⟩ := conv_list l w
  have K1 := (show Hid _ from refSha_any (some ⟨w.heap.size, 0, none⟩) l c1 W1 (fun h => by cases h) (by omega) hB)
  have HB1 := (show Hid _ from hb1)
  clear hB hb1 hc1
  go_enter Tryd.func27, Tryd.ntmps27
  go_wp2_with fail
  refine Calls.mono K1.out ?_
  rintro e w2 ⟨v2, rfl, ho2, hb2⟩
  have HB2 := (show Hid (Below w.heap.size w w2) from HB1.out.trans (hb2.mono HB1.out.size))
  obtain ⟨a2, c2, rfl, hB2⟩ := ho2.bytes
  have K2 := (show Hid _ from rhex_any a2 (shaL l) c2 w2 hB2 (by rw [shaL_length]; omega))
  clear ho2 hb2 hB2 hcv K1
  go_wp2_with fail
  refine Calls.mono K2.out ?_
  rintro e w3 ⟨rfl, hb3⟩
  have HB3 := (show Hid (Below w.heap.size w w3) from HB2.out.trans (hb3.mono HB2.out.size))
  clear hb3 K2
  go_wp2
  go_ret
  exact ⟨rfl, HB3.out⟩
theorem sgT_text (date scope last data : List UInt8) : sgT date scope last data = algT ++ [10] ++ date ++ [10] ++ scope ++ [10] ++ last ++ [10] ++ hexL (shaL []) ++ [10] ++ hexL (shaL data) := by
  rw [sgT, sgX, List.map_cons, Lib.join_cons]
  simp [Lib.joinTail]
set_option maxRecDepth 20000 in
set_option maxHeartbeats 4000000 in
theorem rsign_any (x : Wh) (ka : Option Addr) (kc : Nat) (last data : List UInt8) (da : Option Addr) (dc : Nat) (w : World) (hx : WhOk w x ka kc) (hkn : ka = none → kc = 0) (hdl : data.length ≤ 1000000000) (hdB : Bytes w da data) (h3 : last.length ≤ 1000000000) :
    Calls Tryd.prog 13 #[x.v ka kc, .string ⟨last.toArray⟩, .slice da data.length dc] w fun e w' => e = .returned (.string ⟨(sgL x.key x.date x.scope last data).toArray⟩) ∧ Below w.heap.size w w' := by
  obtain ⟨W, hW⟩ : ∃ W, W = w.alloc (.cells #[.string ⟨x.id.toArray⟩, .string ⟨x.date.toArray⟩, .string ⟨x.scope.toArray⟩, .string ⟨x.sig.toArray⟩, .slice ka x.key.length kc, .string ⟨x.pay.toArray⟩] 30) := ⟨_, rfl⟩
  obtain ⟨N, hN⟩ : ∃ N, N = w.heap.size := ⟨_, rfl⟩
  have nW : W.heap[N]? = some (.cells #[.string ⟨x.id.toArray⟩, .string ⟨x.date.toArray⟩, .string ⟨x.scope.toArray⟩, .string ⟨x.sig.toArray⟩, .slice ka x.key.length kc, .string ⟨x.pay.toArray⟩] 30 (0, 0)) := by rw [hW, hN]; exact heap_alloc_new w _
  have hbW : Below w.heap.size w W := by rw [hW]; exact (Below.refl _ _).alloc (Nat.le_refl _) _
  have HB := (show Hid (Below w.heap.size w W) from hbW)
  have HNW := (show Hid _ from nW)
  have HW := (show Hid (WhOk W x ka kc ∧ (ka = none → kc = 0) ∧ Bytes W da data) from ⟨hx.below hbW, hkn, hdB.below hbW (Nat.le_refl _)⟩)
  have HL := (show Hid (data.length ≤ 1000000000 ∧ last.length ≤ 1000000000) from ⟨hdl, h3⟩)
  have S1 := (show Hid (∀ W', Below W.heap.size W W' → Calls Tryd.prog 27 #[.string ⟨#[]⟩] W' fun e w' => e = .returned (.string ⟨(hexL (shaL [])).toArray⟩) ∧ Below W.heap.size W w') from fun W' hb => (rsum_any [] W' (by simp)).mono fun e w' ⟨h1, h2⟩ => ⟨h1, hb.trans (h2.mono hb.size)⟩)
  obtain ⟨DS, hDS⟩ : ∃ DS : ByteArray, DS = ⟨data.toArray⟩ := ⟨_, rfl⟩
  have S2 := (show Hid (∀ W', Below W.heap.size W W' → Calls Tryd.prog 27 #[.string DS] W' fun e w' => e = .returned (.string ⟨(hexL (shaL data)).toArray⟩) ∧ Below W.heap.size W w') from fun W' hb => by
    rw [hDS]
    exact (rsum_any data W' HL.out.1).mono fun e w' ⟨h1, h2⟩ => ⟨h1, hb.trans (h2.mono hb.size)⟩)
  have CV := (show Hid (∀ W', Below W.heap.size W W' → (convert 22 9 (.slice da data.length dc)).run Tryd.prog W' = .ok (.string DS) W') from fun W' hb => by
    rw [hDS]
    exact convert_bytes W' da dc data (HW.out.2.2.below hb (Nat.le_refl _)))
  obtain ⟨H0, hH0⟩ : ∃ H0 : ByteArray, H0 = ⟨(hexL (shaL [])).toArray⟩ := ⟨_, rfl⟩
  obtain ⟨HD, hHD⟩ : ∃ HD : ByteArray, HD = ⟨(hexL (shaL data)).toArray⟩ := ⟨_, rfl⟩
  rw [← hH0] at S1
  rw [← hHD] at S2
  have hz0 : H0.size = 64 := by rw [hH0]; show (hexL (shaL [])).toArray.size = 64; rw [List.size_toArray, hexL_length]; rfl
  have hzd : HD.size = 64 := by rw [hHD]; show (hexL (shaL data)).toArray.size = 64; rw [List.size_toArray, hexL_length]; rfl
  obtain ⟨DT, hDT⟩ : ∃ DT : ByteArray, DT = ⟨x.date.toArray⟩ := ⟨_, rfl⟩
  obtain ⟨SC, hSC⟩ : ∃ SC : ByteArray, SC = ⟨x.scope.toArray⟩ := ⟨_, rfl⟩
  obtain ⟨LS, hLS⟩ : ∃ LS : ByteArray, LS = ⟨last.toArray⟩ := ⟨_, rfl⟩
  have hz1 : DT.size ≤ 1000000000 := by rw [hDT]; show x.date.toArray.size ≤ _; rw [List.size_toArray]; exact hx.date
  have hz2 : SC.size ≤ 1000000000 := by rw [hSC]; show x.scope.toArray.size ≤ _; rw [List.size_toArray]; exact hx.scope
  have hz3 : LS.size ≤ 1000000000 := by rw [hLS]; show last.toArray.size ≤ _; rw [List.size_toArray]; exact h3
  have HT := (show Hid ((⟨#[65, 87, 83, 52, 45, 72, 77, 65, 67, 45, 83, 72, 65, 50, 53, 54, 45, 80, 65, 89, 76, 79, 65, 68, 10]⟩ : ByteArray) ++ DT ++ ⟨#[10]⟩ ++ SC ++ ⟨#[10]⟩ ++ LS ++ ⟨#[10]⟩ ++ H0 ++ ⟨#[10]⟩ ++ HD = ⟨(sgT x.date x.scope last data).toArray⟩) from by
    show _ = _
    rw [hDT, hSC, hLS, hH0, hHD, sgT_text]
    apply ByteArray.ext
    simp [algT])
  have hn2 := nW
  rw [← hDT, ← hSC] at hn2
  obtain ⟨x0, x1, x2, x3, x4, x5⟩ := six_of hn2
  have HN2 := (show Hid _ from hn2)
  clear hx hkn hdl hdB h3 hbW nW hDS hn2
  unfold Wh.v
  go_enter Tryd.func13, Tryd.ntmps13
  go_upto_region 1 with fail
  rw [← hN, ← hW, ← hLS]
  clear hN hW hLS hDT hSC hH0 hHD
  have hcv := CV.out W.drew (Below.refl _ W).drew
  have q1 : ¬ (25 + DT.size > 9223372036854775807) := by omega
  have q2 : ¬ (25 + DT.size + 1 > 9223372036854775807) := by omega
  have q3 : ¬ (25 + DT.size + 1 + SC.size > 9223372036854775807) := by omega
  have q4 : ¬ (25 + DT.size + 1 + SC.size + 1 > 9223372036854775807) := by omega
  have q5 : ¬ (25 + DT.size + 1 + SC.size + 1 + LS.size > 9223372036854775807) := by omega
  have q6 : ¬ (25 + DT.size + 1 + SC.size + 1 + LS.size + 1 > 9223372036854775807) := by omega
  have q7 : ¬ (25 + DT.size + 1 + SC.size + 1 + LS.size + 1 + 64 > 9223372036854775807) := by omega
  have q8 : ¬ (25 + DT.size + 1 + SC.size + 1 + LS.size + 1 + 64 + 1 > 9223372036854775807) := by omega
  have q9 : ¬ (25 + DT.size + 1 + SC.size + 1 + LS.size + 1 + 64 + 1 + 64 > 9223372036854775807) := by omega
  clear hz1 hz2 hz3
  go_region_held3 (fun w' => w'.cell? ⟨N, 1, none⟩ = some (.string DT) ∧ w'.cell? ⟨N, 2, none⟩ = some (.string SC) ∧ (convert 22 9 (.slice da data.length dc)).run Tryd.prog w' = .ok (.string DS) w') (first | go_keep | (exact z2) | (exact z3)) (first
    | (go_at_call 27; (with_reducible refine Calls.mono (S1.out _ ((Below.refl _ W).drew)) ?_); rintro e w2 ⟨rfl, hb2⟩; have y2 := six_of ((hb2.block N (blk_lt HN2.out)).trans HN2.out); have z2 := And.intro y2.2.1 (And.intro y2.2.2.1 (CV.out w2 hb2)))
    | (go_at_call 27; (with_reducible refine Calls.mono (S2.out _ hb2) ?_); rintro e w3 ⟨rfl, hb3⟩; have y3 := six_of ((hb3.block N (blk_lt HN2.out)).trans HN2.out); have z3 := And.intro y3.2.1 (And.intro y3.2.2.1 (CV.out w3 hb3))))
  rw [HT.out]
  have HB3 := (show Hid (Below W.heap.size W w3) from hb3)
  obtain ⟨-, -, -, -, x4', -⟩ := y3
  have hTl := sgT_len x.date x.scope last data
  obtain ⟨T, hT⟩ : ∃ T, T = sgT x.date x.scope last data := ⟨_, rfl⟩
  have HTT := (show Hid (sgL x.key x.date x.scope last data = hexL (hmacL x.key T)) from by show _ = _; rw [hT]; rfl)
  rw [← hT] at hTl ⊢
  obtain ⟨W4, c4, hcv4, hB4, hb34, hc4⟩ := conv_list T w3
  have HB4 := (show Hid (Below W.heap.size W W4) from hb3.trans (hb34.mono hb3.size))
  have n4 := six_of ((HB4.out.block N (blk_lt HN2.out)).trans HN2.out)
  obtain ⟨-, -, -, -, y4, -⟩ := n4
  have K3 := (show Hid _ from refHmac_any ka x.key kc (some ⟨w3.heap.size, 0, none⟩) T c4 W4 HW.out.2.1 (by have := HW.out.1.key; omega) (HW.out.1.by_.below HB4.out (Nat.le_refl _)) (fun h => by cases h) (by have := HL.out.2; have := HW.out.1.date; have := HW.out.1.scope; omega) hB4)
  clear hb2 hb3 z2 z3 y2 q1 q2 q3 q4 q5 q6 q7 q8 q9 hcv hT hTl hB4 hb34 hc4 x0 x1 x2 x3 x4 x5 hz0 hzd S1 S2 CV
  go_wp2_with fail
  refine Calls.mono K3.out ?_
  rintro e w5 ⟨v5, rfl, ho5, hb5⟩
  have HB5 := (show Hid (Below W.heap.size W w5) from HB4.out.trans (hb5.mono HB4.out.size))
  obtain ⟨a5, c5, rfl, hB5⟩ := ho5.bytes
  have K4 := (show Hid _ from rhex_any a5 (hmacL x.key T) c5 w5 hB5 (by show 32 ≤ _; omega))
  clear ho5 hb5 hB5 K3 hcv4 x4' y4
  go_wp2_with fail
  refine Calls.mono K4.out ?_
  rintro e w6 ⟨rfl, hb6⟩
  have HB6 := (show Hid (Below w.heap.size w w6) from HB.out.trans ((HB5.out.trans (hb6.mono HB5.out.size)).mono HB.out.size))
  clear hb6 K4
  go_wp2
  go_ret
  rw [HTT.out]
  exact ⟨rfl, HB6.out⟩
end Go.Proofs.YtgpjjlkkfddjnaaDoor
/-
  The document's Decode.
-/
namespace Go.Proofs.YtgpjjlkkfddjnaaDoor
open Go.RowKit

/-- Where the document's reader in the box p stands. -/
def posAt (w : World) (p : Nat) : Nat := match w.cell? ⟨p, 1, none⟩ with
  | some (.int _ i) => i.toNat
  | _ => 0
theorem Rr.pos_at {w : World} {p B : Nat} {a : Option Addr} {cap : Nat} {l : List UInt8} {k : Nat} {f : Int} (h : Rr w p B a cap l k f) : posAt w p = k := by
  rw [posAt, h.cells.2.1]
  simp
theorem Rr.grown {w W : World} {p B : Nat} {a : Option Addr} {cap : Nat} {l : List UInt8} {k : Nat} {f : Int} {row : Option Nat} (h : Rr w p B a cap l k f) (hg : w.grownBy W row) (hr : ∀ j, row = some j → j ≠ p ∧ B ≤ j) : Rr W p B a cap l k f :=
  ⟨keep_blk h.box (Md.ofGrown hg) (fun e => (hr p e).1 rfl), h.by_.md (Md.ofGrown hg) (fun b off e hb => by have := (h.lo _ e).2; have := (hr b hb).2; simp only at *; omega), h.lo, h.bp, h.kl⟩
/-- What the loop of the document's Decode keeps. -/
structure DrI (w wr : World) (N p : Nat) (x : Wh) (ka : Option Addr) (kc : Nat) (a : Option Addr) (cap : Nat) (l : List UInt8) (s : RS) (data : List UInt8) (dv : Value) : Prop where
  rd : Rep wr p w.heap.size a cap l s
  who : wr.heap[N]? = some (.cells #[.string ⟨x.id.toArray⟩, .string ⟨x.date.toArray⟩, .string ⟨x.scope.toArray⟩, .string ⟨x.sig.toArray⟩, .slice ka x.key.length kc, .string ⟨x.pay.toArray⟩] 30 (0, 0))
  own : Own wr w.heap.size dv data
  bl : Below w.heap.size w wr
section
variable {w wr W : World} {N p : Nat} {x : Wh} {ka : Option Addr} {kc : Nat} {a : Option Addr} {cap : Nat} {l : List UInt8} {s s' : RS} {data data' : List UInt8} {dv dv' : Value}
theorem Rep.box (h : Rep w p N a cap l s) : ∃ k, w.heap[p]? = some (.cells #[.slice a l.length cap, .int .i64 ((k : Nat) : Int), .int .i64 s.2] 56 (0, 0)) := by
  obtain ⟨k, hr, -⟩ := h
  exact ⟨k, hr.box⟩
theorem Rep.keep (h : Rep w p N a cap l s) (hb : Below w.heap.size w W) : Rep W p N a cap l s := by
  obtain ⟨k, hr, hd⟩ := h
  exact ⟨k, hr.keep hb, hd⟩
theorem Rep.grown {row : Option Nat} (h : Rep w p N a cap l s) (hg : w.grownBy W row) (hr : ∀ j, row = some j → j ≠ p ∧ N ≤ j) : Rep W p N a cap l s := by
  obtain ⟨k, hr', hd⟩ := h
  exact ⟨k, hr'.grown hg hr, hd⟩
theorem DrI.np (h : DrI w wr N p x ka kc a cap l s data dv) : N ≠ p := by
  rintro rfl
  obtain ⟨k, e1⟩ := h.rd.box
  rw [h.who] at e1
  simp at e1
theorem DrI.ne (h : DrI w wr N p x ka kc a cap l s data dv) : ∀ j, dv.ownBlock = some j → j ≠ p ∧ j ≠ N ∧ w.heap.size ≤ j := by
  intro j hj
  obtain ⟨k, hr⟩ := h.rd.box
  exact ⟨own_ne h.own hr (by decide) j hj, own_ne h.own h.who (by decide) j hj, (World.ownsRow.lt h.own j hj).1⟩
theorem DrI.bp (h : DrI w wr N p x ka kc a cap l s data dv) : w.heap.size ≤ p := by
  obtain ⟨k, hr, -⟩ := h.rd
  exact hr.bp
theorem DrI.keep (h : DrI w wr N p x ka kc a cap l s data dv) (hb : Below wr.heap.size wr W) : DrI w W N p x ka kc a cap l s data dv :=
  ⟨h.rd.keep hb, (hb.block N (blk_lt h.who)).trans h.who, own_md h.own (Md.ofBelow (F := fun _ => False) hb) (fun _ _ h => h), h.bl.trans (hb.mono h.bl.size)⟩
theorem DrI.turn (h : DrI w wr N p x ka kc a cap l s data dv) (hm : Md (· = p) wr W) (hr : Rep W p w.heap.size a cap l s') : DrI w W N p x ka kc a cap l s' data dv :=
  ⟨hr, keep_blk h.who hm h.np, own_md h.own hm (fun j hj => (h.ne j hj).1), Md.toBelow h.bl hm (fun b hb e => by have := h.bp; omega) (Nat.le_refl _)⟩
theorem DrI.add (h : DrI w wr N p x ka kc a cap l s data dv) (ho : Own W w.heap.size dv' data') (hg : wr.grownBy W dv.ownBlock) : DrI w W N p x ka kc a cap l s data' dv' :=
  ⟨h.rd.grown hg (fun j hj => ⟨(h.ne j hj).1, (h.ne j hj).2.2⟩), keep_blk h.who (Md.ofGrown hg) (fun e => (h.ne N e).2.1 rfl), ho, h.bl.grown hg h.bl.size (fun k hk => (h.ne k hk).2.2)⟩
end
set_option maxRecDepth 20000 in
set_option maxHeartbeats 4000000 in
theorem rdecode_any (x : Wh) (ka : Option Addr) (kc : Nat) (a : Option Addr) (l : List UInt8) (cap : Nat) (size : Int) (w : World) (hx : WhOk w x ka kc) (hkn : ka = none → kc = 0) (hs : Sl w a cap l) (hl : l.length ≤ 1000000000) :
    Calls Tryd.prog 10 #[x.v ka kc, .slice a l.length cap, .int .i64 size] w fun e w' => ∃ v, e = .returned (.tuple #[v, .int .i64 (decL x size l).2]) ∧ Own w' w.heap.size v (decL x size l).1 ∧ Below w.heap.size w w' := by
  have HX := (show Hid (WhOk w x ka kc ∧ (ka = none → kc = 0) ∧ Sl w a cap l ∧ l.length ≤ 1000000000) from ⟨hx, hkn, hs, hl⟩)
  obtain ⟨W1, hW1⟩ : ∃ W1, W1 = w.alloc (.cells #[.string ⟨x.id.toArray⟩, .string ⟨x.date.toArray⟩, .string ⟨x.scope.toArray⟩, .string ⟨x.sig.toArray⟩, .slice ka x.key.length kc, .string ⟨x.pay.toArray⟩] 30) := ⟨_, rfl⟩
  obtain ⟨W, hW⟩ : ∃ W, W = W1.alloc (.cells #[.slice a l.length cap, .int .i64 0, .int .i64 0] 56) := ⟨_, rfl⟩
  obtain ⟨N, hN⟩ : ∃ N, N = w.heap.size := ⟨_, rfl⟩
  obtain ⟨p, hp⟩ : ∃ p, p = w.heap.size + 1 := ⟨_, rfl⟩
  have hp1 : p = W1.heap.size := by rw [hp, hW1]; show _ = (w.heap.push _).size; simp
  have n1 : W1.heap[N]? = some (.cells #[.string ⟨x.id.toArray⟩, .string ⟨x.date.toArray⟩, .string ⟨x.scope.toArray⟩, .string ⟨x.sig.toArray⟩, .slice ka x.key.length kc, .string ⟨x.pay.toArray⟩] 30 (0, 0)) := by rw [hW1, hN]; exact heap_alloc_new w _
  have hb1 : Below w.heap.size w W1 := by rw [hW1]; exact (Below.refl _ _).alloc (Nat.le_refl _) _
  have hb2 : Below W1.heap.size W1 W := by rw [hW]; exact (Below.refl _ _).alloc (Nat.le_refl _) _
  have nN := (hb2.block N (blk_lt n1)).trans n1
  have nP : W.heap[p]? = some (.cells #[.slice a l.length cap, .int .i64 0, .int .i64 0] 56 (0, 0)) := by rw [hW, hp1]; exact heap_alloc_new W1 _
  have hbW : Below w.heap.size w W := hb1.trans (hb2.mono hb1.size)
  have HI := (show Hid (DrI w W N p x ka kc a cap l (l, 0) [] (.slice none 0 0)) from ⟨⟨0, ⟨nP, hs.by_.below hbW (Nat.le_refl _), hs.lo, by omega, Nat.zero_le _⟩, fun _ => rfl⟩, nN, World.ownsRow_nil _ _ _ _, hbW⟩)
  obtain ⟨x0, x1, x2, x3, x4, x5⟩ := six_of nN
  obtain ⟨R, hR⟩ : ∃ R, R = decL x size l := ⟨_, rfl⟩
  have HR : Hid (R = decF x.key x.date x.scope size (l.length + 1) x.sig [] (l, 0)) := hR
  rw [← hR]
  clear hx hkn hs hl n1 hb1 hb2 nN nP hbW hR hp1
  unfold Wh.v
  go_enter Tryd.func10, Tryd.ntmps10
  go_wp2_with fail
  rw [← hW1, ← hW, ← hp, ← hN]
  clear hW1 hW hp hN x0 x1 x2 x3 x4 x5
  go_loopw [9, 10] (fun lv dv wr => ∃ (n : Nat) (last data m : List UInt8), lv = .string ⟨last.toArray⟩ ∧ Hid (DrI w wr N p x ka kc a cap l (m, 0) data dv ∧ m.length < n ∧ data.length + m.length ≤ 1000000000 ∧ last.length ≤ 1000000000 ∧ R = decF x.key x.date x.scope size n last data (m, 0))) (fun _ _ wr => l.length - posAt wr p)
  case atStart => exact ⟨_, _, [], l, rfl, ⟨HI.out, Nat.lt_succ_self _, by have := HX.out.2.2.2; simpa using this, HX.out.1.sig, HR.out⟩⟩
  case round =>
    obtain ⟨n, last, data, m, rfl, hi⟩ := hrel
    obtain ⟨va, vc, rfl⟩ := own_slice hi.out.1.own
    obtain ⟨k, hrk, hdk⟩ := hi.out.1.rd
    have hm : l.drop k = m := hdk rfl
    have HK := (show Hid (l.drop k = m ∧ posAt wr p = k ∧ m.length = l.length - k ∧ k ≤ l.length) from ⟨hm, hrk.pos_at, by rw [← hm, List.length_drop], hrk.kl⟩)
    have K1 := (show Hid _ from size_any p w.heap.size a cap l k wr hrk HX.out.2.2.2)
    rw [hm] at K1
    clear hrk hdk hm
    go_wp2_with fail
    refine Calls.mono K1.out ?_
    rintro e w1 ⟨rfl, hrp1, hm1⟩
    have I1 := (show Hid _ from hi.out.1.turn hm1 hrp1)
    have K2 := (show Hid (Calls Tryd.prog 21 #[.pointer (some ⟨p, 0, none⟩), .string ⟨#[59, 99, 104, 117, 110, 107, 45, 115, 105, 103, 110, 97, 116, 117, 114, 101, 61]⟩] w1 fun e w' => e = .returned (.tuple #[]) ∧ Rep w' p w.heap.size a cap l (txS sigT (szS (m, 0))) ∧ Md (· = p) w1 w') from eat_any p w.heap.size a cap l (szS (m, 0)) sigT w1 hrp1 HX.out.2.2.2 (by decide))
    clear hrp1 hm1 K1
    go_wp2_with fail
    refine Calls.mono K2.out ?_
    rintro e w2 ⟨rfl, hrp2, hm2⟩
    have I2 := (show Hid _ from I1.out.turn hm2 hrp2)
    have K3 := (show Hid _ from name_any p w.heap.size a cap l (txS sigT (szS (m, 0))) w2 hrp2 HX.out.2.2.2 HX.out.2.2.1.cap)
    clear hrp2 hm2 K2 I1
    go_wp2_with fail
    refine Calls.mono K3.out ?_
    rintro e w3 ⟨⟨S, rfl, hSl, hSe⟩, hrp3, hm3⟩
    have I3 := (show Hid _ from I2.out.turn hm3 hrp3)
    have HS := (show Hid (S.length ≤ 1000000000 ∧ ((hdS m).2 = 0 → S = nmL m)) from ⟨hSl, fun h => hSe (tx_ok h).1⟩)
    have K4 := (show Hid (Calls Tryd.prog 21 #[.pointer (some ⟨p, 0, none⟩), .string ⟨#[13, 10]⟩] w3 fun e w' => e = .returned (.tuple #[]) ∧ Rep w' p w.heap.size a cap l (hdS m) ∧ Md (· = p) w3 w') from eat_any p w.heap.size a cap l _ crT w3 hrp3 HX.out.2.2.2 (by decide))
    clear hrp3 hm3 K3 I2 hSl hSe
    obtain ⟨SS, hSS⟩ : ∃ SS : ByteArray, SS = ⟨S.toArray⟩ := ⟨_, rfl⟩
    have HSS := (show Hid (SS = ⟨S.toArray⟩) from hSS)
    rw [← hSS]
    clear hSS
    obtain ⟨nn, hnn⟩ : ∃ nn, nn = szN (m, 0) := ⟨_, rfl⟩
    have HNN := (show Hid (nn = szN (m, 0) ∧ nn < 4294967296) from ⟨hnn, by rw [hnn]; exact szN_le m⟩)
    rw [← hnn]
    clear hnn
    go_wp2_with fail
    refine Calls.mono K4.out ?_
    rintro e w4 ⟨rfl, hrp4, hm4⟩
    have I4 := (show Hid _ from I3.out.turn hm4 hrp4)
    obtain ⟨k4, hr4, hd4⟩ := hrp4
    obtain ⟨c0, c1, c2, f1, f2⟩ := hr4.cells
    have HR4 := (show Hid (Rr w4 p w.heap.size a cap l k4 (hdS m).2 ∧ ((hdS m).2 = 0 → l.drop k4 = (hdS m).1)) from ⟨hr4, hd4⟩)
    obtain ⟨ck1, ck2⟩ := ck_ref m
    have HC1 := (show Hid _ from ck1)
    have HC2 := (show Hid _ from ck2)
    have hRn : R = decF x.key x.date x.scope size (n - 1 + 1) last data (m, 0) := by rw [hi.out.2.2.2.2]; congr 1; have := hi.out.2.1; omega
    rw [decF] at hRn
    have HRn := (show Hid _ from hRn)
    clear hm4 K4 I3 hr4 hd4 ck1 ck2 hRn
    by_cases hf : (hdS m).2 = 0
    · rw [hf] at c2
      obtain ⟨q, hq⟩ : ∃ q, q = (hdS m).1 := ⟨_, rfl⟩
      have HQ := (show Hid (q = l.drop k4 ∧ q.length = l.length - k4 ∧ k4 ≤ l.length ∧ l.length ≤ cap ∧ cap ≤ 9223372036854775807) from by
        have h1 := HR4.out.2 hf
        exact ⟨by rw [hq, h1], by rw [hq, ← h1, List.length_drop], HR4.out.1.kl, HX.out.2.2.1.cap, HX.out.2.2.1.max⟩)
      obtain ⟨cs, cl, cg⟩ := HC2.out hf
      rw [← hq, ← HNN.out.1] at cl cg
      have HRR := (show Hid (Rr w4 p w.heap.size a cap l k4 0) from by have := HR4.out.1; rw [hf] at this; exact this)
      have HSN := (show Hid (S = nmL m ∧ (ckS (m, 0)).sig = nmL m) from ⟨HS.out.2 hf, cs⟩)
      have hwr : IntKind.i64.wrap ((l.length : Int) - (k4 : Int)) = (l.length : Int) - (k4 : Int) := by have := HX.out.2.2.2; have := HQ.out.2.2.1; rw [IntKind.wrap_i64]; omega
      by_cases hlt : q.length < nn
      · have HRf := (show Hid (R = ([], 307)) from by have h := HRn.out; rw [cl hlt] at h; exact h)
        have hgt : (l.length : Int) - (k4 : Int) < (nn : Int) := by have := HQ.out; omega
        clear cs cl cg hq hf hlt
        go_wp2_with fail
        try rw [Exit.noGoto_ret]
        go_ret2
        rw [HRf.out]
        exact ⟨_, rfl, World.ownsRow_nil _ _ _ _, I4.out.bl⟩
      · have hgt : ¬ (l.length : Int) - (k4 : Int) < (nn : Int) := by have := HQ.out; omega
        have hgt2 : (nn : Int) ≤ (l.length : Int) - (k4 : Int) := by omega
        obtain ⟨cg1, cg2⟩ := cg (by omega)
        have HCG := (show Hid ((ckS (m, 0)).data = q.take nn ∧ nn ≤ q.length ∧ (ckS (m, 0)).s = if nn = 0 then exS (decide ((txS crT (q.drop nn, 0)).1 = [])) (txS crT (q.drop nn, 0)) else txS crT (q.drop nn, 0)) from ⟨cg1, by omega, cg2⟩)
        have hwa : IntKind.i64.wrap ((k4 : Int) + (nn : Int)) = (k4 : Int) + (nn : Int) := by have := HX.out.2.2.2; have := HQ.out; rw [IntKind.wrap_i64]; omega
        have hk40 : (0 : Int) ≤ (k4 : Int) := by omega
        have hkn0 : (0 : Int) ≤ (k4 : Int) + (nn : Int) := by omega
        have hkn1 : (k4 : Int) ≤ (k4 : Int) + (nn : Int) := by omega
        have hkn2 : (k4 : Int) + (nn : Int) ≤ (cap : Int) := by have := HQ.out; omega
        have htn : ((k4 : Int) + (nn : Int)).toNat = k4 + nn := by omega
        have hl0 : 0 < l.length := by
          have h1 : m ≠ [] := by
            intro e
            rw [e, hd_nil] at hf
            cases hf
          have h2 := HK.out.2.2.1
          have h3 := List.length_pos_iff.2 h1
          omega
        clear cs cl cg cg1 cg2 hq hf hlt
        by_cases hz : nn = 0
        · obtain ⟨b, off, rfl, hbs, hcs⟩ := HRR.out.by_.at (k := 0) hl0
          clear hbs hcs hl0
          have HZ := (show Hid (nn = 0) from hz)
          clear hz
          by_cases hck : cap = k4
          · subst hck
            have hq0 : q = [] := List.eq_nil_of_length_eq_zero (by have := HQ.out; omega)
            have htk : cap + nn - cap = nn := by omega
            go_wp2_with fail
            go_upto_region 12 with fail
            go_region_held3 (fun w' => w'.cell? ⟨p, 1, none⟩ = some (.int .i64 (cap : Int))) (go_keep) (fail)
            go_wp2_with fail
            obtain ⟨w5, hw5⟩ : ∃ w5, w5 = (w4.setCell ⟨p, 1, none⟩ (.int .i64 ((cap : Int) + (nn : Int)))).drew := ⟨_, rfl⟩
            have hm5 : Md (· = p) w4 w5 := by rw [hw5]; exact ((Md.refl _ _).setp _ _).drew
            have hr5 : Rep w5 p w.heap.size (some ⟨b, off, none⟩) cap l (q.drop nn, 0) := ⟨cap + nn, HRR.out.turn hm5 (by have := HQ.out; have := HCG.out.2.1; omega) (by
              rw [hw5]
              show (World.setCell w4 ⟨p, 1, none⟩ _).heap[p]? = _
              rw [set_blk HRR.out.box, show ((cap + nn : Nat) : Int) = (cap : Int) + (nn : Int) from by omega]
              rfl), fun _ => by rw [HQ.out.1, List.drop_drop]⟩
            have I5 := (show Hid _ from I4.out.turn hm5 hr5)
            rw [← hw5]
            have K5 := (show Hid (Calls Tryd.prog 21 #[.pointer (some ⟨p, 0, none⟩), .string ⟨#[13, 10]⟩] w5 fun e w' => e = .returned (.tuple #[]) ∧ Rep w' p w.heap.size (some ⟨b, off, none⟩) cap l (txS crT (q.drop nn, 0)) ∧ Md (· = p) w5 w') from eat_any p w.heap.size _ cap l _ crT w5 hr5 HX.out.2.2.2 (by decide))
            have hsz : (ckS (m, 0)).s = exS (decide ((txS crT (q.drop nn, 0)).1 = [])) (txS crT (q.drop nn, 0)) := by rw [HCG.out.2.2, if_pos HZ.out]
            obtain ⟨⟨m6, f6⟩, hs6⟩ : ∃ s6, s6 = txS crT (q.drop nn, 0) := ⟨_, rfl⟩
            have hf6 : ¬ f6 = 0 := by
              have h := hs6
              rw [hq0, List.drop_nil, cr_nil] at h
              rw [(Prod.mk.inj h).2]
              decide
            rw [← hs6] at K5 hsz
            have HE6 := (show Hid ((ckS (m, 0)).s = exS (decide (m6 = [])) (m6, f6)) from hsz)
            clear hs6 hsz hw5 hm5 hr5 c0 c1 c2 f1 f2 hwr hwa hgt hgt2 hk40 hkn0 hkn1 hkn2 htn I4 HR4
            refine Calls.mono K5.out ?_
            rintro e w6 ⟨rfl, hrp6, hm6⟩
            have I6 := (show Hid _ from I5.out.turn hm6 hrp6)
            obtain ⟨k6, hr6, hd6⟩ := hrp6
            obtain ⟨c0, c1, c2, f1, f2⟩ := hr6.cells
            have HR6 := (show Hid (Rr w6 p w.heap.size (some ⟨b, off, none⟩) cap l k6 f6 ∧ (f6 = 0 → l.drop k6 = m6)) from ⟨hr6, hd6⟩)
            clear hr6 hd6 hm6 K5 I5
            have hzi : (nn : Int) = 0 := by have := HZ.out; omega
            have HR7 := (show Hid (R = ([], f6)) from by have h := HRn.out; rw [HE6.out, exS_fault hf6] at h; rw [if_neg hf6] at h; exact h)
            go_wp2_with fail
            go_quiet (fail)
            go_wp2_with fail
            try rw [Exit.noGoto_ret]
            go_ret2
            rw [HR7.out]
            exact ⟨_, rfl, World.ownsRow_nil _ _ _ _, I6.out.bl.trans ((drewN_below _ _).mono I6.out.bl.size)⟩
          · have htk : k4 + nn - k4 = nn := by omega
            go_wp2_with fail
            go_upto_region 12 with fail
            go_region_held3 (fun w' => w'.cell? ⟨p, 1, none⟩ = some (.int .i64 (k4 : Int))) (go_keep) (fail)
            go_wp2_with fail
            obtain ⟨w5, hw5⟩ : ∃ w5, w5 = (w4.setCell ⟨p, 1, none⟩ (.int .i64 ((k4 : Int) + (nn : Int)))).drew := ⟨_, rfl⟩
            have hm5 : Md (· = p) w4 w5 := by rw [hw5]; exact ((Md.refl _ _).setp _ _).drew
            have hr5 : Rep w5 p w.heap.size (some ⟨b, off, none⟩) cap l (q.drop nn, 0) := ⟨k4 + nn, HRR.out.turn hm5 (by have := HQ.out; have := HCG.out.2.1; omega) (by
              rw [hw5]
              show (World.setCell w4 ⟨p, 1, none⟩ _).heap[p]? = _
              rw [set_blk HRR.out.box, show ((k4 + nn : Nat) : Int) = (k4 : Int) + (nn : Int) from by omega]
              rfl), fun _ => by rw [HQ.out.1, List.drop_drop]⟩
            have I5 := (show Hid _ from I4.out.turn hm5 hr5)
            rw [← hw5]
            have K5 := (show Hid (Calls Tryd.prog 21 #[.pointer (some ⟨p, 0, none⟩), .string ⟨#[13, 10]⟩] w5 fun e w' => e = .returned (.tuple #[]) ∧ Rep w' p w.heap.size (some ⟨b, off, none⟩) cap l (txS crT (q.drop nn, 0)) ∧ Md (· = p) w5 w') from eat_any p w.heap.size _ cap l _ crT w5 hr5 HX.out.2.2.2 (by decide))
            have hsz : (ckS (m, 0)).s = exS (decide ((txS crT (q.drop nn, 0)).1 = [])) (txS crT (q.drop nn, 0)) := by rw [HCG.out.2.2, if_pos HZ.out]
            obtain ⟨⟨m6, f6⟩, hs6⟩ : ∃ s6, s6 = txS crT (q.drop nn, 0) := ⟨_, rfl⟩
            rw [← hs6] at K5 hsz
            have HE6 := (show Hid ((ckS (m, 0)).s = exS (decide (m6 = [])) (m6, f6)) from hsz)
            clear hs6 hsz hw5 hm5 hr5 c0 c1 c2 f1 f2 hwr hwa hgt hgt2 hk40 hkn0 hkn1 hkn2 htn I4 HR4
            refine Calls.mono K5.out ?_
            rintro e w6 ⟨rfl, hrp6, hm6⟩
            have I6 := (show Hid _ from I5.out.turn hm6 hrp6)
            obtain ⟨k6, hr6, hd6⟩ := hrp6
            obtain ⟨c0, c1, c2, f1, f2⟩ := hr6.cells
            have HR6 := (show Hid (Rr w6 p w.heap.size (some ⟨b, off, none⟩) cap l k6 f6 ∧ (f6 = 0 → l.drop k6 = m6)) from ⟨hr6, hd6⟩)
            clear hr6 hd6 hm6 K5 I5
            have hzi : (nn : Int) = 0 := by have := HZ.out; omega
            by_cases hf6 : f6 = 0
            · subst hf6
              by_cases hk6 : k6 = l.length
              · have hm60 : m6 = [] := by rw [← HR6.out.2 rfl, hk6, List.drop_length]
                have hex : exS (decide (m6 = [])) ((m6, 0) : RS) = (m6, 0) := by rw [hm60]; rfl
                have HE7 := (show Hid ((ckS (m, 0)).s = (m6, 0)) from by have := HE6.out; rw [hex] at this; exact this)
                have hk6i : (k6 : Int) = (l.length : Int) := by omega
                obtain ⟨x0, x1, x2, x3, x4, x5⟩ := six_of I6.out.who
                have hql : (q.take nn).length = nn := by rw [List.length_take]; have := HCG.out.2.1; omega
                have hB6 : Bytes w6 (some ⟨b, off + k4, none⟩) (q.take nn) := by
                  have := bytes_from (k := k4) HR6.out.1.by_ HQ.out.2.2.2.1
                  rw [fromA, if_neg hck, Option.map_some, Addr.add_lit, ← HQ.out.1] at this
                  exact bytes_take nn this
                have K7 := (show Hid _ from rsign_any x ka kc last (q.take nn) (some ⟨b, off + k4, none⟩) (cap - k4) w6 (HX.out.1.below I6.out.bl) HX.out.2.1 (by rw [hql]; have := HZ.out; omega) hB6 hi.out.2.2.2.1)
                rw [hql] at K7
                obtain ⟨SG, hSG⟩ : ∃ SG, SG = sgL x.key x.date x.scope last (q.take nn) := ⟨_, rfl⟩
                rw [← hSG] at K7
                unfold Wh.v at K7
                have HQL := (show Hid ((q.take nn).length = nn ∧ q.take nn = []) from ⟨hql, List.eq_nil_of_length_eq_zero (by rw [hql]; exact HZ.out)⟩)
                have hdn : q.take nn = [] := HQL.out.2
                have hRn := HRn.out
                rw [HE7.out, if_pos rfl, HSN.out.2, HCG.out.1, ← hSG, ← HSN.out.1, if_pos hdn] at hRn
                have HR7 := (show Hid _ from hRn)
                clear hql hB6 hSG hRn hdn hk6 hm60 hex hzi
                obtain rfl : SS = ⟨S.toArray⟩ := HSS.out
                have hzi : (nn : Int) = 0 := by have := HZ.out; omega
                go_wp2_with fail
                refine Calls.mono K7.out ?_
                rintro e w7 ⟨rfl, hb7⟩
                have I7 := (show Hid _ from I6.out.keep hb7)
                clear hb7 K7 c0 c1 c2 f1 f2 x0 x1 x2 x3 x4 x5
                by_cases hs : S = SG
                · have hq1 : (SG == S) = true := by simp [hs]
                  have hq2 : (SG != S) = false := by simp [hs]
                  have hR8 := HR7.out
                  rw [if_pos hs] at hR8
                  have HR8 := (show Hid _ from hR8)
                  have HCS := (show Hid (∀ j u, (bcs (q.take nn))[j]? = some u → w7.cell? ((⟨b, off + k4, none⟩ : Addr).add j) = some u) from fun j u h => by rw [HQL.out.2] at h; simp [bcs] at h)
                  clear hR8 hs
                  obtain ⟨i0, hi0, hz0, hz1, hz2⟩ := info_parts info5
                  have HI0 := (show Hid (Tryd.prog.info? 5 = some i0 ∧ _ ∧ _ ∧ _) from ⟨hi0, hz0, hz1, hz2⟩)
                  have HDL := (show Hid (data.length ≤ 1000000000) from by have := hi.out.2.2.1; show _ ≤ _; omega)
                  clear hi0 hz0 hz1 hz2
                  by_cases hz : (data.length : Int) = size
                  · have HR9 := (show Hid (R = (data, 0)) from by have := HR8.out; rw [if_pos hz] at this; exact this)
                    go_wp2_with (at_builtin; refine wpList_append_own _ rfl (.tmp 105) (.tmp 106) 22 rfl w.heap.size 5 i0 _ 1 1 Tryd.underlying22 HI0.out.1 HI0.out.2.1 HI0.out.2.2.1 HI0.out.2.2.2 rfl (by omega) (.slice va data.length vc) data.length (bcs data) rfl I7.out.own ⟨b, off + k4, none⟩ nn (cap - k4) (bcs (q.take nn)) rfl (by rw [bcs_length, HQL.out.1]; omega) HCS.out (bcs_one _) (by have := HDL.out; have := HZ.out; unfold maxLen; omega) (by have := HDL.out; have := HZ.out; omega) I7.out.bl.size ?_; intro v3 w8 hown3 hg3 _; have HO3 := (show Hid (Own w8 w.heap.size v3 data ∧ Below w.heap.size w w8) from ⟨by rw [HQL.out.2, HZ.out] at hown3; simpa [Own, bcs] using hown3, (I7.out.add (data' := data ++ q.take nn) (by rw [Own, List.length_append, HQL.out.1, bcs_append]; exact hown3) hg3).bl⟩); obtain ⟨va3, vc3, rfl⟩ := own_slice hown3; clear hown3 hg3)
                    try rw [Exit.noGoto_ret]
                    go_ret2
                    rw [HR9.out]
                    exact ⟨_, rfl, HO3.out⟩
                  · have HR9 := (show Hid (R = ([], 307)) from by have := HR8.out; rw [if_neg hz] at this; exact this)
                    go_wp2_with (at_builtin; refine wpList_append_own _ rfl (.tmp 105) (.tmp 106) 22 rfl w.heap.size 5 i0 _ 1 1 Tryd.underlying22 HI0.out.1 HI0.out.2.1 HI0.out.2.2.1 HI0.out.2.2.2 rfl (by omega) (.slice va data.length vc) data.length (bcs data) rfl I7.out.own ⟨b, off + k4, none⟩ nn (cap - k4) (bcs (q.take nn)) rfl (by rw [bcs_length, HQL.out.1]; omega) HCS.out (bcs_one _) (by have := HDL.out; have := HZ.out; unfold maxLen; omega) (by have := HDL.out; have := HZ.out; omega) I7.out.bl.size ?_; intro v3 w8 hown3 hg3 _; have HO3 := (show Hid (Own w8 w.heap.size v3 data ∧ Below w.heap.size w w8) from ⟨by rw [HQL.out.2, HZ.out] at hown3; simpa [Own, bcs] using hown3, (I7.out.add (data' := data ++ q.take nn) (by rw [Own, List.length_append, HQL.out.1, bcs_append]; exact hown3) hg3).bl⟩); obtain ⟨va3, vc3, rfl⟩ := own_slice hown3; clear hown3 hg3)
                    try rw [Exit.noGoto_ret]
                    go_ret2
                    rw [HR9.out]
                    exact ⟨_, rfl, World.ownsRow_nil _ _ _ _, HO3.out.2⟩
                · have hq1 : (SG == S) = false := by simp; exact fun e => hs e.symm
                  have hq2 : (SG != S) = true := by simp; exact fun e => hs e.symm
                  have hR8 := HR7.out
                  rw [if_neg hs] at hR8
                  have HR8 := (show Hid _ from hR8)
                  clear hR8 hs
                  go_wp2_with fail
                  try rw [Exit.noGoto_ret]
                  go_ret2
                  rw [HR8.out]
                  exact ⟨_, rfl, World.ownsRow_nil _ _ _ _, I7.out.bl⟩
              · have hm60 : ¬ m6 = [] := by
                  intro e
                  have h1 := HR6.out.2 rfl
                  rw [e] at h1
                  have := congrArg List.length h1
                  simp only [List.length_drop, List.length_nil] at this
                  have := HR6.out.1.kl
                  omega
                have hex : exS (decide (m6 = [])) ((m6, 0) : RS) = (m6, 308) := by simp [exS, hm60]
                have HR7 := (show Hid (R = ([], 308)) from by have h := HRn.out; rw [HE6.out, hex] at h; exact h)
                have hk6i : ¬ (k6 : Int) = (l.length : Int) := by omega
                clear hm60 hex hk6
                go_wp2_with fail
                go_quiet (fail)
                go_wp2_with fail
                try rw [Exit.noGoto_ret]
                go_ret2
                rw [HR7.out]
                exact ⟨_, rfl, World.ownsRow_nil _ _ _ _, Md.toBelow I6.out.bl (((Md.refl _ _).setp _ _).below (drewN_below _ _)) (fun b hb e => by have := I6.out.bp; omega) (Nat.le_refl _)⟩
            · have HR7 := (show Hid (R = ([], f6)) from by have h := HRn.out; rw [HE6.out, exS_fault hf6] at h; rw [if_neg hf6] at h; exact h)
              go_wp2_with fail
              go_quiet (fail)
              go_wp2_with fail
              try rw [Exit.noGoto_ret]
              go_ret2
              rw [HR7.out]
              exact ⟨_, rfl, World.ownsRow_nil _ _ _ _, I6.out.bl.trans ((drewN_below _ _).mono I6.out.bl.size)⟩
        · clear hl0
          have hzi : ¬ (nn : Int) = 0 := by omega
          have hck : ¬ cap = k4 := by have := HQ.out; omega
          obtain ⟨b, off, rfl, hbs, hcs⟩ := HRR.out.by_.at (k := k4) (by have := HQ.out; have := HCG.out.2.1; omega)
          clear hbs hcs
          have htk : k4 + nn - k4 = nn := by omega
          go_wp2_with fail
          go_upto_region 12 with fail
          go_region_held3 (fun w' => w'.cell? ⟨p, 1, none⟩ = some (.int .i64 (k4 : Int))) (go_keep) (fail)
          go_wp2_with fail
          obtain ⟨w5, hw5⟩ : ∃ w5, w5 = (w4.setCell ⟨p, 1, none⟩ (.int .i64 ((k4 : Int) + (nn : Int)))).drew := ⟨_, rfl⟩
          have hm5 : Md (· = p) w4 w5 := by rw [hw5]; exact ((Md.refl _ _).setp _ _).drew
          have hr5 : Rep w5 p w.heap.size (some ⟨b, off, none⟩) cap l (q.drop nn, 0) := ⟨k4 + nn, HRR.out.turn hm5 (by have := HQ.out; have := HCG.out.2.1; omega) (by
            rw [hw5]
            show (World.setCell w4 ⟨p, 1, none⟩ _).heap[p]? = _
            rw [set_blk HRR.out.box, show ((k4 + nn : Nat) : Int) = (k4 : Int) + (nn : Int) from by omega]
            rfl), fun _ => by rw [HQ.out.1, List.drop_drop]⟩
          have I5 := (show Hid _ from I4.out.turn hm5 hr5)
          rw [← hw5]
          have K5 := (show Hid (Calls Tryd.prog 21 #[.pointer (some ⟨p, 0, none⟩), .string ⟨#[13, 10]⟩] w5 fun e w' => e = .returned (.tuple #[]) ∧ Rep w' p w.heap.size (some ⟨b, off, none⟩) cap l (txS crT (q.drop nn, 0)) ∧ Md (· = p) w5 w') from eat_any p w.heap.size _ cap l _ crT w5 hr5 HX.out.2.2.2 (by decide))
          have hsz : (ckS (m, 0)).s = txS crT (q.drop nn, 0) := by rw [HCG.out.2.2, if_neg hz]
          obtain ⟨⟨m6, f6⟩, hs6⟩ : ∃ s6, s6 = txS crT (q.drop nn, 0) := ⟨_, rfl⟩
          rw [← hs6] at K5 hsz
          have HE6 := (show Hid ((ckS (m, 0)).s = (m6, f6)) from hsz)
          clear hs6 hsz hw5 hm5 hr5 c0 c1 c2 f1 f2 hwr hwa hgt hgt2 hk40 hkn0 hkn1 hkn2 htn I4 HR4 hzi
          refine Calls.mono K5.out ?_
          rintro e w6 ⟨rfl, hrp6, hm6⟩
          have I6 := (show Hid _ from I5.out.turn hm6 hrp6)
          obtain ⟨k6, hr6, hd6⟩ := hrp6
          obtain ⟨c0, c1, c2, f1, f2⟩ := hr6.cells
          have HR6 := (show Hid (Rr w6 p w.heap.size (some ⟨b, off, none⟩) cap l k6 f6) from hr6)
          clear hr6 hd6 hm6 K5 I5
          have hzi : ¬ (nn : Int) = 0 := by omega
          by_cases hf6 : f6 = 0
          · subst hf6
            obtain ⟨x0, x1, x2, x3, x4, x5⟩ := six_of I6.out.who
            have hql : (q.take nn).length = nn := by rw [List.length_take]; have := HCG.out.2.1; omega
            have hB6 : Bytes w6 (some ⟨b, off + k4, none⟩) (q.take nn) := by
              have := bytes_from (k := k4) HR6.out.by_ HQ.out.2.2.2.1
              rw [fromA, if_neg hck, Option.map_some, Addr.add_lit, ← HQ.out.1] at this
              exact bytes_take nn this
            have HB6 := (show Hid (Bytes w6 (some ⟨b, off + k4, none⟩) (q.take nn)) from hB6)
            have K7 := (show Hid _ from rsign_any x ka kc last (q.take nn) (some ⟨b, off + k4, none⟩) (cap - k4) w6 (HX.out.1.below I6.out.bl) HX.out.2.1 (by rw [hql]; have := HQ.out; have := HCG.out.2.1; have := HX.out.2.2.2; omega) hB6 hi.out.2.2.2.1)
            rw [hql] at K7
            obtain ⟨SG, hSG⟩ : ∃ SG, SG = sgL x.key x.date x.scope last (q.take nn) := ⟨_, rfl⟩
            rw [← hSG] at K7
            unfold Wh.v at K7
            have HQL := (show Hid ((q.take nn).length = nn) from hql)
            have hdn : ¬ q.take nn = [] := by
              intro e
              rw [e] at hql
              exact hz hql.symm
            have hRn := HRn.out
            rw [HE6.out, if_pos rfl, HSN.out.2, HCG.out.1, ← hSG, ← HSN.out.1, if_neg hdn] at hRn
            have HR7 := (show Hid _ from hRn)
            have HLE := (show Hid (m6.length < m.length ∧ nn + m6.length ≤ m.length ∧ data.length + nn ≤ 1000000000 ∧ m6.length < n - 1 ∧ data.length + nn + m6.length ≤ 1000000000) from by
              have h1 := ck_less (s := (m, 0)) (by rw [HE6.out])
              have h2 := ck_room (m, 0)
              rw [HE6.out] at h1 h2
              rw [HCG.out.1, hql] at h2
              have h3 := hi.out.2.1
              have h4 := hi.out.2.2.1
              simp only at h1 h2
              show _ ∧ _
              refine ⟨?_, ?_, ?_, ?_, ?_⟩ <;> omega)
            clear hql hB6 hSG hRn hdn
            obtain rfl : SS = ⟨S.toArray⟩ := HSS.out
            go_wp2_with fail
            refine Calls.mono K7.out ?_
            rintro e w7 ⟨rfl, hb7⟩
            have I7 := (show Hid _ from I6.out.keep hb7)
            have HB7 := (show Hid (Bytes w7 (some ⟨b, off + k4, none⟩) (q.take nn)) from HB6.out.below hb7 (Nat.le_refl _))
            clear hb7 K7 c0 c1 c2 f1 f2 x0 x1 x2 x3 x4 x5
            by_cases hs : S = SG
            · have hq1 : (SG == S) = true := by simp [hs]
              have hq2 : (SG != S) = false := by simp [hs]
              have hR8 := HR7.out
              rw [if_pos hs] at hR8
              have HR8 := (show Hid _ from hR8)
              clear hR8 hs
              obtain ⟨b', off', e', hbs, hcs⟩ := HB7.out.at (k := 0) (by rw [HQL.out]; omega)
              obtain ⟨rfl, rfl⟩ : b = b' ∧ off + k4 = off' := by simpa using e'
              have HCS := (show Hid (∀ j u, (bcs (q.take nn))[j]? = some u → w7.cell? ((⟨b, off + k4, none⟩ : Addr).add j) = some u) from bytes_news hcs)
              clear hbs hcs e'
              obtain ⟨i0, hi0, hz0, hz1, hz2⟩ := info_parts info5
              have HI0 := (show Hid (Tryd.prog.info? 5 = some i0 ∧ _ ∧ _ ∧ _) from ⟨hi0, hz0, hz1, hz2⟩)
              clear hi0 hz0 hz1 hz2
              go_wp2_with (at_builtin; refine wpList_append_own _ rfl (.tmp 105) (.tmp 106) 22 rfl w.heap.size 5 i0 _ 1 1 Tryd.underlying22 HI0.out.1 HI0.out.2.1 HI0.out.2.2.1 HI0.out.2.2.2 rfl (by omega) (.slice va data.length vc) data.length (bcs data) rfl I7.out.own ⟨b, off + k4, none⟩ nn (cap - k4) (bcs (q.take nn)) rfl (by rw [bcs_length, HQL.out]; omega) HCS.out (bcs_one _) (by have := HLE.out; unfold maxLen; omega) (by have := HLE.out; omega) I7.out.bl.size ?_; intro v3 w8 hown3 hg3 _; have I8 := (show Hid (DrI w w8 N p x ka kc (some ⟨b, off, none⟩) cap l (m6, 0) (data ++ q.take nn) v3) from I7.out.add (by rw [Own, List.length_append, HQL.out, bcs_append]; exact hown3) hg3); clear hown3 hg3)
              go_roundw
              case rel => exact ⟨n - 1, S, data ++ q.take nn, m6, rfl, ⟨I8.out, HLE.out.2.2.2.1, by rw [List.length_append, HQL.out]; exact HLE.out.2.2.2.2, HS.out.1, HR8.out⟩⟩
              case measure =>
                obtain ⟨k8, hr8, hd8⟩ := I8.out.rd
                have h8 := hd8 rfl
                have h9 := congrArg List.length h8
                simp only [List.length_drop] at h9
                have := HK.out
                have := HLE.out.1
                have := hr8.kl
                rw [hr8.pos_at, HK.out.2.1]
                omega
            · have hq1 : (SG == S) = false := by simp; exact fun e => hs e.symm
              have hq2 : (SG != S) = true := by simp; exact fun e => hs e.symm
              have hR8 := HR7.out
              rw [if_neg hs] at hR8
              have HR8 := (show Hid _ from hR8)
              clear hR8 hs
              go_wp2_with fail
              try rw [Exit.noGoto_ret]
              go_ret2
              rw [HR8.out]
              exact ⟨_, rfl, World.ownsRow_nil _ _ _ _, I7.out.bl⟩
          · have HR7 := (show Hid (R = ([], f6)) from by have h := HRn.out; rw [HE6.out] at h; rw [if_neg hf6] at h; exact h)
            go_wp2_with fail
            go_quiet (fail)
            go_wp2_with fail
            try rw [Exit.noGoto_ret]
            go_ret2
            rw [HR7.out]
            exact ⟨_, rfl, World.ownsRow_nil _ _ _ _, I6.out.bl.trans ((drewN_below _ _).mono I6.out.bl.size)⟩
    · have HRf := (show Hid (R = ([], (hdS m).2)) from by have h := HRn.out; rw [HC1.out hf] at h; rw [if_neg hf] at h; exact h)
      obtain ⟨ff, hff⟩ : ∃ ff, ff = (hdS m).2 := ⟨_, rfl⟩
      rw [← hff] at hf c2 HRf
      clear hff
      go_wp2_with fail
      go_quiet (fail)
      go_wp2_with fail
      try rw [Exit.noGoto_ret]
      go_ret2
      rw [HRf.out]
      exact ⟨_, rfl, World.ownsRow_nil _ _ _ _, I4.out.bl.trans ((drewN_below _ _).mono I4.out.bl.size)⟩
end Go.Proofs.YtgpjjlkkfddjnaaDoor
