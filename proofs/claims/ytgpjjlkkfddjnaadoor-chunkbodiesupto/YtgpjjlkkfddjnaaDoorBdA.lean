/-
  bytes.Clone, decodedSize.
-/
import Derived.Test.YtgpjjlkkfddjnaaDoorHdA
import Derived.Test.YtgpjjlkkfddjnaaDoorIntA
import Derived.WalkSpells
import Derived.Lib.SliceRun
namespace Go.Proofs.YtgpjjlkkfddjnaaDoor
open Go.RowKit

theorem Sl.cells {w : World} {b off c : Nat} {l : List UInt8} (h : Sl w (some ⟨b, off, none⟩) c l) : ∀ j (hj : j < l.length), w.cell? ⟨b, off + j, none⟩ = some (.int .u8 (l[j].toNat : Int)) := by
  intro j hj
  rcases h.by_ with h | ⟨b', off', e, _, hcell⟩
  · subst h; simp at hj
  · simp only [Option.some.injEq, Addr.mk.injEq] at e
    obtain ⟨rfl, rfl, -⟩ := e
    exact hcell j hj
set_option maxRecDepth 20000 in
set_option maxHeartbeats 1000000 in
theorem clone_any (a : Option Addr) (l : List UInt8) (c : Nat) (w : World) (hl : Sl w a c l) (hll : l.length ≤ 1000000000) :
    Calls Tryd.prog 33 #[.slice a l.length c] w fun e w' => ∃ v, e = .returned v ∧ Own w' w.heap.size v l ∧ Below w.heap.size w w' := by
  have HL := (show Hid (Sl w a c l) from hl)
  have q22 : ∀ (w : World) (a : Option Addr) (n c n' c' : Nat), (binOp .eql 22 (.slice a n c) (.slice none n' c')).run Tryd.prog w = .ok (.bool a.isNone) w := fun w a n c n' c' => Lib.run_eql_slice_nil w _ _ a n c n' c' Tryd.underlying22
  clear hl
  cases a with
  | none =>
    have hn : l = [] := by
      have h1 := HL.out.cap
      have h2 := HL.out.nil rfl
      exact List.eq_nil_of_length_eq_zero (by omega)
    subst hn
    have hc : c = 0 := HL.out.nil rfl
    subst hc
    simp only [List.length_nil]
    go_enter Tryd.func33, Tryd.ntmps33
    go_wp2
    go_ret
    exact ⟨_, rfl, World.ownsRow_nil _ _ _ _, Below.refl _ _⟩
  | some p =>
    have hs : p.spot = none := (HL.out.lo p rfl).1
    obtain ⟨b, off, spot⟩ := p
    have hs' : spot = none := hs
    subst hs'
    clear hs
    have HBS := (show Hid (b < w.heap.size) from (HL.out.lo ⟨b, off, none⟩ rfl).2)
    have HCS := (show Hid (∀ j (hj : j < l.length), w.cell? ⟨b, off + j, none⟩ = some (.int .u8 (l[j].toNat : Int))) from HL.out.cells)
    have HOA := (show Hid (Own (w.alloc (.cells #[] 5)) w.heap.size (.slice (some ⟨w.heap.size, 0, none⟩) 0 0) []) from World.ownsRow_lit w #[] 0 (Nat.le_refl _) (by decide) rfl)
    have HBA := (show Hid (Below w.heap.size w (w.alloc (.cells #[] 5))) from (Below.refl _ _).alloc (Nat.le_refl _) _)
    have HNW := (show Hid (∀ j u, (bcs l)[j]? = some u → (w.alloc (.cells #[] 5)).cell? ((⟨b, off, none⟩ : Addr).add j) = some u) from bytes_news (fun j hj => (HBA.out.cell (p := ⟨b, off + j, none⟩) HBS.out).trans (HCS.out j hj)))
    obtain ⟨i0, hi0, hz0, hz1, hz2⟩ := info_parts info5
    have HI0 := (show Hid (Tryd.prog.info? 5 = some i0 ∧ _ ∧ _ ∧ _) from ⟨hi0, hz0, hz1, hz2⟩)
    have HEl := (show Hid (l.length ≤ 1000000000) from hll)
    clear hi0 hz0 hz1 hz2
    go_enter Tryd.func33, Tryd.ntmps33
    go_wp2_with (at_builtin; refine wpList_append_own _ rfl (.tmp 5) (.tmp 6) 22 rfl w.heap.size 5 i0 _ 1 1 Tryd.underlying22 HI0.out.1 HI0.out.2.1 HI0.out.2.2.1 HI0.out.2.2.2 rfl (by omega) (.slice (some ⟨w.heap.size, 0, none⟩) 0 0) 0 (bcs []) rfl HOA.out ⟨b, off, none⟩ l.length c (bcs l) rfl (by rw [bcs_length]; omega) HNW.out (bcs_one _) (by have := HEl.out; unfold maxLen; omega) (by have := HEl.out; omega) HBA.out.size ?_; intro v5 w5 hown5 hg5 _; have HO5 := (show Hid (Own w5 w.heap.size v5 l ∧ Below w.heap.size w w5) from ⟨by simpa [Own, bcs] using hown5, HBA.out.grown hg5 HBA.out.size (fun j hj => (World.ownsRow.lt HOA.out j hj).1)⟩); clear hown5 hg5)
    go_wp2
    go_ret
    exact ⟨_, rfl, HO5.out.1, HO5.out.2⟩
theorem clone_call {a : Option Addr} {l : List UInt8} {c : Nat} {w : World} (hl : Sl w a c l) (hll : l.length ≤ 1000000000) :
    Calls Tryd.prog 33 #[.slice a l.length c] w fun e w' => ∃ a' c', e = .returned (.slice a' l.length c') ∧ Sl w' a' c' l ∧ Below w.heap.size w w' :=
  (clone_any a l c w hl hll).mono fun e w' ⟨v, h1, h2, h3⟩ => by
    obtain ⟨a', c', h4, h5⟩ := own_sl h2
    exact ⟨a', c', by rw [h1, h4], h5, h3⟩
/-- "x-amz-decoded-content-length" -/
def dslT : List UInt8 := [120, 45, 97, 109, 122, 45, 100, 101, 99, 111, 100, 101, 100, 45, 99, 111, 110, 116, 101, 110, 116, 45, 108, 101, 110, 103, 116, 104]
/-- The size that the headers tell, and whether it may be. -/
def dszL (hs : List Hd) : Int × Bool :=
  match allL hs dslT with
  | [x] => (En.intV x, En.intOk x && decide (En.intV x ≤ 1048576))
  | _ => (0, false)
theorem allL_val {hs : List Hd} {n x : List UInt8} (h : x ∈ allL hs n) : ∃ k, (k, x) ∈ hs := by
  obtain ⟨p, hp, rfl⟩ := List.mem_map.1 h
  exact ⟨p.1, (List.mem_filter.1 hp).1⟩
theorem pow18 : ∀ k : Nat, k ≤ 18 → (10 : Int) ^ k ≤ 10 ^ 18 := fun k hk => by
  have h : ∀ k : Nat, k < 19 → (10 : Int) ^ k ≤ 10 ^ 18 := by decide +kernel
  exact h k (by omega)
theorem intV_bd (l : List UInt8) : 0 ≤ En.intV l ∧ En.intV l ≤ 999999999999999999 := by
  unfold En.intV
  by_cases h : En.intOk l = true
  · rw [if_pos h]
    have h18 : l.length ≤ 18 := by
      unfold En.intOk at h
      simp only [Bool.and_eq_true, decide_eq_true_eq] at h
      exact h.1.1.2
    have hb := En.ival_bd l l.length
    have hp : (10 : Int) ^ l.length ≤ 10 ^ 18 := pow18 _ h18
    have he : (10 : Int) ^ 18 = 1000000000000000000 := by decide
    omega
  · rw [if_neg h]; omega
set_option maxRecDepth 20000 in
set_option maxHeartbeats 1000000 in
theorem dsz_any (a : Option Addr) (hs : List Hd) (c : Nat) (w : World) (hH : Hdrs w a hs) (hl : hs.length ≤ 1000000000) (hv : ∀ h ∈ hs, h.2.length ≤ 1000000000) :
    Calls Tryd.prog 34 #[.slice a hs.length c] w fun e w' => e = .returned (.tuple #[.int .i64 (dszL hs).1, .bool (dszL hs).2]) ∧ Below w.heap.size w w' := by
  have HA := (show Hid _ from all_any a hs c dslT w hH hl)
  have HV := (show Hid (∀ x ∈ allL hs dslT, x.length ≤ 1000000000) from fun x hx => by
    obtain ⟨k, hk⟩ := allL_val hx
    exact hv _ hk)
  have hal := all_len hs dslT
  obtain ⟨O, hO⟩ : ∃ O, O = dszL hs := ⟨_, rfl⟩
  have HO := (show Hid _ from hO)
  rw [← hO]
  clear hO hH hv
  unfold dszL at HO
  generalize allL hs dslT = A at *
  go_enter Tryd.func34, Tryd.ntmps34
  go_wp2_with fail
  refine Calls.mono HA.out ?_
  rintro e w1 ⟨v, rfl, ho, hb⟩
  obtain ⟨a1, c1, rfl, hs1⟩ := ho.strs
  rw [toB_len]
  have HB := (show Hid _ from hb)
  match A, HO, HV, hs1, hal with
  | [], HO, HV, hs1, hal =>
    have HN : Hid (O = (0, false)) := HO.out
    clear HO HV hs1 ho HA hb
    simp only [List.length_nil]
    go_wp2
    go_ret2
    rw [HN.out]
    exact ⟨rfl, HB.out⟩
  | [x], HO, HV, hs1, hal =>
    have HN : Hid (O = (En.intV x, En.intOk x && decide (En.intV x ≤ 1048576))) := HO.out
    have hxl : x.length ≤ 1000000000 := HV.out x (by simp)
    rcases hs1 with h | ⟨b, off, rfl, hbs, hc⟩
    · simp [toB] at h
    · have c0 := hc 0 (by simp [toB])
      rw [Nat.add_zero] at c0
      obtain ⟨X, hX⟩ : ∃ X : ByteArray, X = ⟨x.toArray⟩ := ⟨_, rfl⟩
      have c0' : w1.cell? ⟨b, off, none⟩ = some (.string X) := by rw [hX]; exact c0
      have hXl : X.size ≤ 140737488351232 := by rw [hX]; show x.toArray.size ≤ _; simp; omega
      have KI := (show Hid _ from fun W => En.int_any X W hXl)
      have eX : X.data.toList = x := by rw [hX]
      rw [eX] at KI
      have hbd := intV_bd x
      obtain ⟨iv, hiv⟩ : ∃ iv, iv = En.intV x := ⟨_, rfl⟩
      obtain ⟨ok, hok⟩ : ∃ ok, ok = En.intOk x := ⟨_, rfl⟩
      rw [← hiv, ← hok] at HN
      rw [← hiv, ← hok] at KI
      rw [← hiv] at hbd
      clear hiv hok eX hX c0 hc HO HV HA ho hb hXl hxl
      simp only [List.length_cons, List.length_nil, Nat.zero_add]
      by_cases hle : iv ≤ 1048576
      · have HLE := (show Hid (iv ≤ 1048576) from hle)
        cases ok with
        | true =>
          go_wp2_with (go_at_call 57; refine (KI.out _).mono ?_; rintro e w' ⟨rfl, rfl⟩)
          go_ret2
          rw [HN.out]
          rw [decide_eq_true HLE.out]
          exact ⟨rfl, HB.out⟩
        | false =>
          go_wp2_with (go_at_call 57; refine (KI.out _).mono ?_; rintro e w' ⟨rfl, rfl⟩)
          go_ret2
          rw [HN.out]
          exact ⟨rfl, HB.out⟩
      · have HLE := (show Hid (¬ iv ≤ 1048576) from hle)
        cases ok with
        | true =>
          go_wp2_with (go_at_call 57; refine (KI.out _).mono ?_; rintro e w' ⟨rfl, rfl⟩)
          go_ret2
          rw [HN.out]
          rw [decide_eq_false (show ¬ iv ≤ 1048576 from by have := HLE.out; omega)]
          exact ⟨rfl, HB.out⟩
        | false =>
          go_wp2_with (go_at_call 57; refine (KI.out _).mono ?_; rintro e w' ⟨rfl, rfl⟩)
          go_ret2
          rw [HN.out]
          exact ⟨rfl, HB.out⟩
  | x :: y :: r, HO, HV, hs1, hal =>
    have HN : Hid (O = (0, false)) := HO.out
    obtain ⟨m, hm⟩ : ∃ m, m = (x :: y :: r).length := ⟨_, rfl⟩
    have hm1 : ((m : Int) == 1) = false := by rw [beq_eq_false_iff_ne, hm, List.length_cons, List.length_cons]; omega
    rw [← hm]
    clear HO HV hs1 ho HA hb hm hal
    go_wp2
    go_ret2
    rw [HN.out]
    exact ⟨rfl, HB.out⟩
end Go.Proofs.YtgpjjlkkfddjnaaDoor
