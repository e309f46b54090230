/-
  Lists that a reader tells: what they are, by plain functions; 'sound'.
-/
import Derived.Test.YtbhiabcgjnfpoaaGreatDoorRun16
import Derived.Laws.AppendOwnNone
namespace Go.Proofs.YtbhiabcgjnfpoaaGreatDoor
open Go.RowKit

/-- A step of reading: it eats a field, or nothing is right from there on. -/
structure Eats (one : Option (List ByteArray) → Option (List ByteArray)) : Prop where
  len : ∀ st L', one st = some L' → ∃ L, st = some L ∧ L'.length + 1 ≤ L.length
  sm : ∀ st, Sm st → Sm (one st)
theorem Eats.no {one : Option (List ByteArray) → Option (List ByteArray)} (h : Eats one) : one none = none := by
  cases e : one none with
  | none => rfl
  | some L =>
    obtain ⟨L', h1, _⟩ := h.len _ _ e
    cases h1
theorem eats_take (gd : ByteArray → Bool) : Eats (tkS gd) := by
  refine ⟨fun st L' h => ?_, fun st h => h.take gd⟩
  match st, h with
  | some (x :: r), h =>
    simp only [tkS] at h
    split at h
    · cases h
      exact ⟨_, rfl, by simp⟩
    · cases h
theorem Eats.comp {one two : Option (List ByteArray) → Option (List ByteArray)} (h1 : Eats one) (h2 : Eats two) : Eats (fun st => two (one st)) := by
  refine ⟨fun st L' h => ?_, fun st h => h2.sm _ (h1.sm _ h)⟩
  obtain ⟨L1, e1, l1⟩ := h2.len _ _ h
  obtain ⟨L2, e2, l2⟩ := h1.len _ _ e1
  exact ⟨L2, e2, by omega⟩

/-- n steps, and what they tell. -/
def rpS (one : Option (List ByteArray) → Option (List ByteArray)) : Nat → Option (List ByteArray) → Option (List ByteArray)
  | 0, st => st
  | n + 1, st => rpS one n (one st)
def rpV {α : Type} (val : Option (List ByteArray) → α) (one : Option (List ByteArray) → Option (List ByteArray)) : Nat → Option (List ByteArray) → List α
  | 0, _ => []
  | n + 1, st => val st :: rpV val one n (one st)
theorem rpS_succ (one : Option (List ByteArray) → Option (List ByteArray)) : ∀ n st, rpS one (n + 1) st = one (rpS one n st)
  | 0, _ => rfl
  | n + 1, st => rpS_succ one n (one st)
theorem rpV_succ {α : Type} (val : Option (List ByteArray) → α) (one : Option (List ByteArray) → Option (List ByteArray)) : ∀ n st, rpV val one (n + 1) st = rpV val one n st ++ [val (rpS one n st)]
  | 0, _ => rfl
  | n + 1, st => by
    show val st :: rpV val one (n + 1) (one st) = val st :: (rpV val one n (one st) ++ _)
    rw [rpV_succ val one n (one st)]
    rfl
theorem rpV_len {α : Type} (val : Option (List ByteArray) → α) (one : Option (List ByteArray) → Option (List ByteArray)) : ∀ n st, (rpV val one n st).length = n
  | 0, _ => rfl
  | n + 1, st => by
    show (rpV val one n (one st)).length + 1 = n + 1
    rw [rpV_len val one n (one st)]
theorem rpS_none {one : Option (List ByteArray) → Option (List ByteArray)} (h : Eats one) : ∀ n, rpS one n none = none
  | 0 => rfl
  | n + 1 => by
    show rpS one n (one none) = none
    rw [h.no, rpS_none h n]
theorem rpS_add (one : Option (List ByteArray) → Option (List ByteArray)) : ∀ n m st, rpS one (n + m) st = rpS one m (rpS one n st)
  | 0, m, st => by rw [Nat.zero_add]; rfl
  | n + 1, m, st => by
    rw [show n + 1 + m = (n + m) + 1 by omega]
    exact rpS_add one n m (one st)
theorem rpS_stop {one : Option (List ByteArray) → Option (List ByteArray)} (h : Eats one) {n m : Nat} {st : Option (List ByteArray)} (hn : rpS one n st = none) (hm : n ≤ m) : rpS one m st = none := by
  obtain ⟨d, rfl⟩ := Nat.le.dest hm
  rw [rpS_add, hn, rpS_none h]
theorem rpS_len {one : Option (List ByteArray) → Option (List ByteArray)} (h : Eats one) : ∀ n st L', rpS one n st = some L' → ∃ L, st = some L ∧ L'.length + n ≤ L.length
  | 0, st, L', e => ⟨L', e, by simp⟩
  | n + 1, st, L', e => by
    obtain ⟨L1, e1, l1⟩ := rpS_len h n (one st) L' e
    obtain ⟨L2, e2, l2⟩ := h.len _ _ e1
    exact ⟨L2, e2, by omega⟩
theorem rpS_sm {one : Option (List ByteArray) → Option (List ByteArray)} (h : Eats one) : ∀ n st, Sm st → Sm (rpS one n st)
  | 0, _, hs => hs
  | n + 1, st, hs => rpS_sm h n (one st) (h.sm _ hs)
/-- A list: its number, then so many. -/
def lsS (one : Option (List ByteArray) → Option (List ByteArray)) (st : Option (List ByteArray)) : Option (List ByteArray) := rpS one (nuV st).toNat (tkS nuG st)
def lsV {α : Type} (val : Option (List ByteArray) → α) (one : Option (List ByteArray) → Option (List ByteArray)) (st : Option (List ByteArray)) : List α := rpV val one (nuV st).toNat (tkS nuG st)
theorem eats_list {one : Option (List ByteArray) → Option (List ByteArray)} (h : Eats one) : Eats (lsS one) := by
  refine ⟨fun st L' e => ?_, fun st hs => rpS_sm h _ _ ((eats_take nuG).sm _ hs)⟩
  obtain ⟨L1, e1, l1⟩ := rpS_len h _ _ _ e
  obtain ⟨L2, e2, l2⟩ := (eats_take nuG).len _ _ e1
  exact ⟨L2, e2, by omega⟩
theorem intV_bd (l : List UInt8) : 0 ≤ En.intV l ∧ En.intV l < 1000000000000000000 := by
  unfold En.intV
  split
  · next h =>
    have h1 := En.ival_bd l l.length
    have h18 : l.length ≤ 18 := by
      rw [← Nat.not_lt]
      intro hl
      rw [En.intOk_18 hl] at h
      cases h
    have h2 : (10 : Int) ^ l.length ≤ 10 ^ 18 := by
      have : (10 : Nat) ^ l.length ≤ 10 ^ 18 := Nat.pow_le_pow_right (by omega) h18
      exact_mod_cast this
    have h3 : (10 : Int) ^ 18 = 1000000000000000000 := by decide
    omega
  · exact ⟨by decide, by decide⟩
theorem nuV_bd (st : Option (List ByteArray)) : 0 ≤ nuV st ∧ nuV st < 1000000000000000000 := by
  match st with
  | none => exact ⟨by decide, by decide⟩
  | some [] => exact ⟨by decide, by decide⟩
  | some (x :: r) => exact intV_bd _

/-- 'sound'. -/
def Snd (ks : Nat) : Prop :=
  (∀ args w, (callFunc ks args).run Tryz.prog w = .ok (.enter ks args) w) ∧
  ∀ (W : World) (s : Nat) (b : Bool), W.heap[s]? = some (.cells #[.bool b] 4 (0, 0)) → Calls Tryz.prog ks #[.pointer (some ⟨s, 0, none⟩)] W fun e W' => e = .returned (.bool b) ∧ W = W'
theorem snd101 : Snd 101 := by
  refine ⟨fun args w => Tryz.call101 args w, ?_⟩
  intro W s b hb
  have c0 := cell_blk hb 0
  simp only [List.getElem?_toArray] at c0
  clear hb
  go_enter Tryz.func101, Tryz.ntmps101
  go_wp2
  go_ret
  exact ⟨rfl, rfl⟩
theorem Md.grown {F : Nat → Prop} {w w1 w2 : World} {row : Option Nat} (h : Md F w w1) (hg : w1.grownBy w2 row) (hr : ∀ j, row = some j → w.heap.size ≤ j) : Md F w w2 :=
  ⟨hg.os.trans h.os, hg.tape.trans h.tape, hg.output.trans h.output, Nat.le_trans h.size hg.size, fun b hb h1 => (hg.block b (Nat.lt_of_lt_of_le hb h.size) (fun e => by have := hr b e.symm; omega)).trans (h.block b hb h1)⟩
theorem Md.ofGrown {w1 w2 : World} {row : Option Nat} (hg : w1.grownBy w2 row) : Md (fun b => row = some b) w1 w2 :=
  ⟨hg.os, hg.tape, hg.output, hg.size, fun b hb h1 => hg.block b hb (fun e => h1 e.symm)⟩
end Go.Proofs.YtbhiabcgjnfpoaaGreatDoor
/-
  Lists of tags and of headers that a reader tells.
-/
namespace Go.Proofs.YtbhiabcgjnfpoaaGreatDoor
open Go.RowKit

def prS (st : Option (List ByteArray)) : Option (List ByteArray) := tkS T1 (tkS T1 st)
def prV (st : Option (List ByteArray)) : ByteArray × ByteArray := (txV st, txV (tkS T1 st))
theorem eats_pr : Eats prS := (eats_take T1).comp (eats_take T1)
/-- The cells of a list of pairs. -/
def pcs (L : List (ByteArray × ByteArray)) : List Value := L.flatMap fun p => [.string p.1, .string p.2]
theorem pcs_len (L : List (ByteArray × ByteArray)) : (pcs L).length = L.length * 2 := by
  unfold pcs
  induction L with
  | nil => rfl
  | cons a r ih => simp only [List.flatMap_cons, List.length_append, ih, List.length_cons, List.length_nil]; omega
theorem pcs_append (L M : List (ByteArray × ByteArray)) : pcs (L ++ M) = pcs L ++ pcs M := by simp [pcs]
theorem info72 : (Tryz.prog.info? 72).map (fun i => (i.zero, i.size, i.bytes)) = some (some (.agg #[.string ⟨#[]⟩, .string ⟨#[]⟩]), 2, 32) := by kernel_rfl
theorem info81 : (Tryz.prog.info? 81).map (fun i => (i.zero, i.size, i.bytes)) = some (some (.agg #[.string ⟨#[]⟩, .string ⟨#[]⟩]), 2, 32) := by kernel_rfl
/-- What a list that was read is. -/
def LsR (t : TypeId) (w w' : World) (Bd s f : Nat) (st : Option (List ByteArray)) (e : Ending) : Prop :=
  ∃ v n, e = .returned v ∧ (∃ a c, v = .slice a n c) ∧ Rd w' Bd s f (lsS prS st) ∧ Md (fun b => b = s ∨ b = f) w w' ∧ ∀ L, lsS prS st = some L → w'.ownsRow w.heap.size t 2 v n (pcs (lsV prV prS st)) ∧ n = (lsV prV prS st).length

def slLen : Value → Nat
  | .slice _ n _ => n
  | _ => 0
theorem own_slice {w : World} {base : Nat} {e : TypeId} {size : Nat} {v : Value} {n : Nat} {xs : List Value} (h : w.ownsRow base e size v n xs) : ∃ a c, v = .slice a n c := by
  obtain ⟨_, ⟨rfl, rfl⟩ | ⟨g, cap, cur, rfl, _⟩⟩ := h
  · exact ⟨_, _, rfl⟩
  · exact ⟨_, _, rfl⟩
theorem own_ne {w : World} {base : Nat} {e : TypeId} {size : Nat} {v : Value} {n : Nat} {xs : List Value} (h : w.ownsRow base e size v n xs) {g : Nat} {c : Array Value} {t : TypeId} {fz : Nat × Nat} (hg : w.heap[g]? = some (.cells c t fz)) (ht : t ≠ e) : ∀ j, v.ownBlock = some j → j ≠ g := by
  obtain ⟨_, ⟨rfl, rfl⟩ | ⟨b, cap, cur, rfl, _, hh, _⟩⟩ := h
  · intro j hj; cases hj
  · intro j hj
    simp only [Value.ownBlock, Option.some.injEq] at hj
    subst hj
    rintro rfl
    rw [hh] at hg
    simp only [Option.some.injEq, Obj.cells.injEq] at hg
    exact ht hg.2.1.symm
theorem own_md {F : Nat → Prop} {w w' : World} {base : Nat} {e : TypeId} {size : Nat} {v : Value} {n : Nat} {xs : List Value} (h : w.ownsRow base e size v n xs) (hm : Md F w w') (hF : ∀ j, v.ownBlock = some j → ¬ F j) : w'.ownsRow base e size v n xs := by
  obtain ⟨h0, ⟨rfl, rfl⟩ | ⟨b, cap, cur, rfl, h1, hh, h2⟩⟩ := h
  · exact ⟨h0, .inl ⟨rfl, rfl⟩⟩
  · exact ⟨h0, .inr ⟨b, cap, cur, rfl, h1, (hm.block b (blk_lt hh) (hF b rfl)).trans hh, h2⟩⟩

set_option maxRecDepth 20000 in
set_option maxHeartbeats 4000000 in
theorem readTags_any (kt ks Bd s f : Nat) (hT : Take kt) (hS : Snd ks) (st : Option (List ByteArray)) (w : World) (hR : Rd w Bd s f st) (hsz : Sm st) (hln : ∀ L, st = some L → L.length ≤ 8388608) :
    Calls Tryz.prog 54 #[rdV kt ks s f, .func (.func 55) #[] #[]] w fun e w' => LsR 72 w w' Bd s f st e := by
  obtain ⟨i0, hi, hz0, hz1, hz2⟩ := info_parts info72
  have hent : ∀ args w, (callFunc 55 args).run Tryz.prog w = .ok (.enter 55 args) w := fun args w => Tryz.call55 args w
  have henS := hS.1
  have HS := (show Hid (∀ (W : World) (b : Bool), W.heap[s]? = some (.cells #[.bool b] 4 (0, 0)) → Calls Tryz.prog ks #[.pointer (some ⟨s, 0, none⟩)] W fun e W' => e = .returned (.bool b) ∧ W = W') from fun W b => hS.2 W s b)
  unfold rdV
  obtain ⟨Ft, hFt⟩ : ∃ Ft, Ft = Value.func (.func kt) #[] #[.pointer (some ⟨s, 0, none⟩), .pointer (some ⟨f, 0, none⟩)] := ⟨_, rfl⟩
  rw [← hFt]
  have HK51 : Hid (∀ W st, Rd W Bd s f st → Sm st → Calls Tryz.prog 51 #[.agg #[Ft, .func (.func ks) #[] #[.pointer (some ⟨s, 0, none⟩)]]] W fun e w' => e = .returned (.int .i64 (nuV st)) ∧ Rd w' Bd s f (tkS nuG st) ∧ Md (fun b => b = s ∨ b = f) W w') := by
    rw [hFt]
    exact fun W st h1 h2 => rnumber_any kt ks Bd s f hT st W h1 h2
  have HK55 : Hid (∀ W st, Rd W Bd s f st → Sm st → Calls Tryz.prog 55 #[.agg #[Ft, .func (.func ks) #[] #[.pointer (some ⟨s, 0, none⟩)]]] W fun e w' => e = .returned (.agg #[.string (txV st), .string (txV (tkS T1 st))]) ∧ Rd w' Bd s f (tkS T1 (tkS T1 st)) ∧ Md (fun b => b = s ∨ b = f) W w') := by
    rw [hFt]
    exact fun W st h1 h2 => readTag_any kt ks Bd s f hT st W h1 h2
  obtain ⟨N, hN⟩ : ∃ N : Nat, nuV st = (N : Int) := Int.eq_ofNat_of_zero_le (nuV_bd st).1
  have hNb : N < 1000000000000000000 := by have := (nuV_bd st).2; omega
  clear hFt hT hS
  go_enter Tryz.func54, Tryz.ntmps54
  go_wp2_with fail
  have hb0 : Below w.heap.size w (w.alloc (.cells #[Ft, .func (.func ks) #[] #[.pointer (some ⟨s, 0, none⟩)]] 89)) := (Below.refl _ w).alloc (Nat.le_refl _) _
  have hlt := hR.lt
  refine (HK51.out _ st (hR.other hb0) hsz).mono ?_
  rintro e w1 ⟨rfl, hr1, hm1⟩
  rw [hN]
  have g1 : w1.heap[w.heap.size]? = some (.cells #[Ft, .func (.func ks) #[] #[.pointer (some ⟨s, 0, none⟩)]] 89 (0, 0)) := keep_blk (heap_alloc_new w _) hm1 (by omega)
  have m1 : Md (fun b => b = s ∨ b = f) w w1 := ((Md.refl _ w).below hb0).then hm1 (fun b _ h => h)
  obtain ⟨g, hg⟩ : ∃ g, g = w.heap.size := ⟨_, rfl⟩
  obtain ⟨st1, hst1⟩ : ∃ st1, st1 = tkS nuG st := ⟨_, rfl⟩
  have HL : Hid (lsS prS st = rpS prS N st1 ∧ lsV prV prS st = rpV prV prS N st1) := by
    show _ ∧ _
    unfold lsS lsV
    rw [hN, hst1]
    exact ⟨rfl, rfl⟩
  have HSm : Hid (Sm st1) := by rw [hst1]; exact hsz.take nuG
  have HLn : Hid (∀ L, st1 = some L → L.length ≤ 8388608) := by
    intro L e
    rw [hst1] at e
    obtain ⟨L1, e1, l1⟩ := (eats_take nuG).len _ _ e
    have := hln L1 e1
    omega
  rw [← hst1] at hr1
  have H1 : Hid (Rd w1 Bd s f st1 ∧ Md (fun b => b = s ∨ b = f) w w1 ∧ w1.heap[g]? = some (.cells #[Ft, .func (.func ks) #[] #[.pointer (some ⟨s, 0, none⟩)]] 89 (0, 0))) := ⟨hr1, m1, by rw [hg]; exact g1⟩
  have HG : Hid (g = w.heap.size ∧ s < w.heap.size ∧ f < w.heap.size ∧ Bd ≤ w.heap.size) := ⟨hg, hlt.1, hlt.2, hR.lo⟩
  rw [← hg]
  clear hb0 hlt hr1 hm1 g1 m1 hg hst1 hN hR hsz hln HK51
  go_wp2_with fail
  go_loopw [5] (fun v wr => ∃ k : Nat, k ≤ N ∧ k ≤ 8388609 ∧ wr.ownsRow w.heap.size 72 2 v k (pcs (rpV prV prS k st1)) ∧ Rd wr Bd s f (rpS prS k st1) ∧ Md (fun b => b = s ∨ b = f) w wr ∧ wr.heap[g]? = some (.cells #[Ft, .func (.func ks) #[] #[.pointer (some ⟨s, 0, none⟩)]] 89 (0, 0))) (fun v _ => N - slLen v)
  case atStart => exact ⟨0, by omega, by omega, World.ownsRow_nil _ _ _ _, H1.out.1, H1.out.2.1, H1.out.2.2⟩
  case round =>
    obtain ⟨k, hk, hk8, hown, hr, hm, hb⟩ := hrel
    obtain ⟨a, c, rfl⟩ := own_slice hown
    have q0 := cell_blk hb 0
    have q1 := cell_blk hb 1
    simp only [List.getElem?_toArray] at q0 q1
    by_cases hlt : k < N
    · have hlt' : (k : Int) < (N : Int) := by omega
      have hsb := hr.bs
      cases hst : rpS prS k st1 with
      | none =>
        rw [hst] at hsb hr
        have HSn := HS.out wr false hsb
        have HR : Hid (Rd wr Bd s f none ∧ Md (fun b => b = s ∨ b = f) w wr ∧ lsS prS st = none) := ⟨hr, hm, by rw [HL.out.1]; exact rpS_stop eats_pr hst (by omega)⟩
        clear hsb hr hm hst hb hown HS HK55
        go_wp2_with fail
        refine HSn.mono ?_
        rintro e w2 ⟨rfl, rfl⟩
        go_wp2
        go_ret
        refine ⟨_, k, rfl, ⟨a, c, rfl⟩, by rw [HR.out.2.2]; exact HR.out.1, HR.out.2.1, fun L hL => ?_⟩
        rw [HR.out.2.2] at hL
        cases hL
      | some L =>
        rw [hst] at hsb hr
        have HSn := HS.out wr true hsb
        obtain ⟨L0, e0, l0⟩ := rpS_len eats_pr _ _ _ hst
        have hkL : k ≤ 8388608 := by have := HLn.out L0 e0; omega
        have hsm : Sm (some L) := by rw [← hst]; exact rpS_sm eats_pr _ _ HSm.out
        have HC := HK55.out wr (some L) hr hsm
        have HR : Hid (wr.ownsRow w.heap.size 72 2 (.slice a k c) k (pcs (rpV prV prS k st1)) ∧ Rd wr Bd s f (some L) ∧ Md (fun b => b = s ∨ b = f) w wr ∧ wr.heap[g]? = some (.cells #[Ft, .func (.func ks) #[] #[.pointer (some ⟨s, 0, none⟩)]] 89 (0, 0)) ∧ rpS prS k st1 = some L) := ⟨hown, hr, hm, hb, hst⟩
        clear hsb hr hm hst hb hown HS HK55 e0 l0 hsm hk8
        go_wp2_with fail
        refine HSn.mono ?_
        rintro e w2 ⟨rfl, rfl⟩
        go_wp2_with fail
        refine HC.mono ?_
        rintro e w3 ⟨rfl, hr3, hm3⟩
        have hns : ∀ j, (Value.slice a k c).ownBlock = some j → ¬ (j = s ∨ j = f) := fun j hj => by have h1 := (HR.out.1.lt j hj).1; have := HG.out; omega
        have hown3 := own_md HR.out.1 hm3 hns
        have hb3 := keep_blk HR.out.2.2.2.1 hm3 (by have := HG.out; omega)
        have hM3 := HR.out.2.2.1.then hm3 (fun b _ h => h)
        have hw3s := hM3.size
        have H3 : Hid (Rd w3 Bd s f (prS (some L)) ∧ Md (fun b => b = s ∨ b = f) w w3 ∧ w3.heap[g]? = some (.cells #[Ft, .func (.func ks) #[] #[.pointer (some ⟨s, 0, none⟩)]] 89 (0, 0))) := ⟨hr3, hM3, hb3⟩
        clear hr3 hm3 hns hb3 hM3
        go_wp2_with (at_builtin; refine wpList_append_own _ rfl (.tmp 18) (.tmp 22) 23 rfl w.heap.size 72 i0 (.agg #[.string ⟨#[]⟩, .string ⟨#[]⟩]) 2 32 Tryz.underlying23 hi hz0 hz1 hz2 rfl (by decide) _ k _ rfl (hown3.alloc _) ⟨w3.heap.size, 0, none⟩ 1 1 [.string (txV (some L)), .string (txV (tkS T1 (some L)))] rfl rfl (cell_two_new _ _ _ _) (by intro u hu; simp at hu; rcases hu with rfl | rfl <;> rfl) (by unfold maxLen; omega) (by omega) (by simp; omega) ?_; intro v5 w5 hown5 hgrow5 _)
        go_roundw
        case rel =>
          have hlow := hown3.lt
          have hA : Md (fun b => b = s ∨ b = f) w (w3.alloc (.cells #[.string (txV (some L)), .string (txV (tkS T1 (some L)))] 72)) := H3.out.2.1.alloc _
          have hRA := H3.out.1.other ((Below.refl _ w3).alloc (Nat.le_refl _) (.cells #[.string (txV (some L)), .string (txV (tkS T1 (some L)))] 72))
          have hbA := keep_blk H3.out.2.2 ((Md.refl (fun _ => False) w3).alloc (.cells #[.string (txV (some L)), .string (txV (tkS T1 (some L)))] 72)) (fun h => h)
          refine ⟨k + 1, by omega, by omega, ?_, ?_, hA.grown hgrow5 (fun j hj => (hlow j hj).1), ?_⟩
          · rw [rpV_succ, pcs_append, HR.out.2.2.2.2]
            exact hown5
          · rw [rpS_succ, HR.out.2.2.2.2]
            refine hRA.md (Md.ofGrown hgrow5) (fun h => ?_) (fun h => ?_) (fun b hb h => ?_)
            · have := (hlow s h).1; have := HG.out; omega
            · have := (hlow f h).1; have := HG.out; omega
            · have := (hlow b h).1; have := HG.out; omega
          · exact keep_blk hbA (Md.ofGrown hgrow5) (fun h => own_ne (hown3.alloc _) hbA (by decide) g h rfl)
        case measure =>
          obtain ⟨a5, c5, rfl⟩ := own_slice hown5
          simp [slLen]
          omega
    · obtain rfl : k = N := by omega
      have HR : Hid (wr.ownsRow w.heap.size 72 2 (.slice a k c) k (pcs (rpV prV prS k st1)) ∧ Rd wr Bd s f (rpS prS k st1) ∧ Md (fun b => b = s ∨ b = f) w wr) := ⟨hown, hr, hm⟩
      clear hown hr hm hb
      go_wp2
      go_ret
      refine ⟨_, k, rfl, ⟨a, c, rfl⟩, by rw [HL.out.1]; exact HR.out.2.1, HR.out.2.2, fun L hL => ?_⟩
      rw [HL.out.2]
      exact ⟨HR.out.1, (rpV_len _ _ _ _).symm⟩
set_option maxRecDepth 20000 in
set_option maxHeartbeats 4000000 in
theorem readHeaders_any (kt ks Bd s f : Nat) (hT : Take kt) (hS : Snd ks) (st : Option (List ByteArray)) (w : World) (hR : Rd w Bd s f st) (hsz : Sm st) (hln : ∀ L, st = some L → L.length ≤ 8388608) :
    Calls Tryz.prog 65 #[rdV kt ks s f, .func (.func 66) #[] #[]] w fun e w' => LsR 81 w w' Bd s f st e := by
  obtain ⟨i0, hi, hz0, hz1, hz2⟩ := info_parts info81
  have hent : ∀ args w, (callFunc 66 args).run Tryz.prog w = .ok (.enter 66 args) w := fun args w => Tryz.call66 args w
  have henS := hS.1
  have HS := (show Hid (∀ (W : World) (b : Bool), W.heap[s]? = some (.cells #[.bool b] 4 (0, 0)) → Calls Tryz.prog ks #[.pointer (some ⟨s, 0, none⟩)] W fun e W' => e = .returned (.bool b) ∧ W = W') from fun W b => hS.2 W s b)
  unfold rdV
  obtain ⟨Ft, hFt⟩ : ∃ Ft, Ft = Value.func (.func kt) #[] #[.pointer (some ⟨s, 0, none⟩), .pointer (some ⟨f, 0, none⟩)] := ⟨_, rfl⟩
  rw [← hFt]
  have HK51 : Hid (∀ W st, Rd W Bd s f st → Sm st → Calls Tryz.prog 51 #[.agg #[Ft, .func (.func ks) #[] #[.pointer (some ⟨s, 0, none⟩)]]] W fun e w' => e = .returned (.int .i64 (nuV st)) ∧ Rd w' Bd s f (tkS nuG st) ∧ Md (fun b => b = s ∨ b = f) W w') := by
    rw [hFt]
    exact fun W st h1 h2 => rnumber_any kt ks Bd s f hT st W h1 h2
  have HK66 : Hid (∀ W st, Rd W Bd s f st → Sm st → Calls Tryz.prog 66 #[.agg #[Ft, .func (.func ks) #[] #[.pointer (some ⟨s, 0, none⟩)]]] W fun e w' => e = .returned (.agg #[.string (txV st), .string (txV (tkS T1 st))]) ∧ Rd w' Bd s f (tkS T1 (tkS T1 st)) ∧ Md (fun b => b = s ∨ b = f) W w') := by
    rw [hFt]
    exact fun W st h1 h2 => readHeader_any kt ks Bd s f hT st W h1 h2
  obtain ⟨N, hN⟩ : ∃ N : Nat, nuV st = (N : Int) := Int.eq_ofNat_of_zero_le (nuV_bd st).1
  have hNb : N < 1000000000000000000 := by have := (nuV_bd st).2; omega
  clear hFt hT hS
  go_enter Tryz.func65, Tryz.ntmps65
  go_wp2_with fail
  have hb0 : Below w.heap.size w (w.alloc (.cells #[Ft, .func (.func ks) #[] #[.pointer (some ⟨s, 0, none⟩)]] 89)) := (Below.refl _ w).alloc (Nat.le_refl _) _
  have hlt := hR.lt
  refine (HK51.out _ st (hR.other hb0) hsz).mono ?_
  rintro e w1 ⟨rfl, hr1, hm1⟩
  rw [hN]
  have g1 : w1.heap[w.heap.size]? = some (.cells #[Ft, .func (.func ks) #[] #[.pointer (some ⟨s, 0, none⟩)]] 89 (0, 0)) := keep_blk (heap_alloc_new w _) hm1 (by omega)
  have m1 : Md (fun b => b = s ∨ b = f) w w1 := ((Md.refl _ w).below hb0).then hm1 (fun b _ h => h)
  obtain ⟨g, hg⟩ : ∃ g, g = w.heap.size := ⟨_, rfl⟩
  obtain ⟨st1, hst1⟩ : ∃ st1, st1 = tkS nuG st := ⟨_, rfl⟩
  have HL : Hid (lsS prS st = rpS prS N st1 ∧ lsV prV prS st = rpV prV prS N st1) := by
    show _ ∧ _
    unfold lsS lsV
    rw [hN, hst1]
    exact ⟨rfl, rfl⟩
  have HSm : Hid (Sm st1) := by rw [hst1]; exact hsz.take nuG
  have HLn : Hid (∀ L, st1 = some L → L.length ≤ 8388608) := by
    intro L e
    rw [hst1] at e
    obtain ⟨L1, e1, l1⟩ := (eats_take nuG).len _ _ e
    have := hln L1 e1
    omega
  rw [← hst1] at hr1
  have H1 : Hid (Rd w1 Bd s f st1 ∧ Md (fun b => b = s ∨ b = f) w w1 ∧ w1.heap[g]? = some (.cells #[Ft, .func (.func ks) #[] #[.pointer (some ⟨s, 0, none⟩)]] 89 (0, 0))) := ⟨hr1, m1, by rw [hg]; exact g1⟩
  have HG : Hid (g = w.heap.size ∧ s < w.heap.size ∧ f < w.heap.size ∧ Bd ≤ w.heap.size) := ⟨hg, hlt.1, hlt.2, hR.lo⟩
  rw [← hg]
  clear hb0 hlt hr1 hm1 g1 m1 hg hst1 hN hR hsz hln HK51
  go_wp2_with fail
  go_loopw [5] (fun v wr => ∃ k : Nat, k ≤ N ∧ k ≤ 8388609 ∧ wr.ownsRow w.heap.size 81 2 v k (pcs (rpV prV prS k st1)) ∧ Rd wr Bd s f (rpS prS k st1) ∧ Md (fun b => b = s ∨ b = f) w wr ∧ wr.heap[g]? = some (.cells #[Ft, .func (.func ks) #[] #[.pointer (some ⟨s, 0, none⟩)]] 89 (0, 0))) (fun v _ => N - slLen v)
  case atStart => exact ⟨0, by omega, by omega, World.ownsRow_nil _ _ _ _, H1.out.1, H1.out.2.1, H1.out.2.2⟩
  case round =>
    obtain ⟨k, hk, hk8, hown, hr, hm, hb⟩ := hrel
    obtain ⟨a, c, rfl⟩ := own_slice hown
    have q0 := cell_blk hb 0
    have q1 := cell_blk hb 1
    simp only [List.getElem?_toArray] at q0 q1
    by_cases hlt : k < N
    · have hlt' : (k : Int) < (N : Int) := by omega
      have hsb := hr.bs
      cases hst : rpS prS k st1 with
      | none =>
        rw [hst] at hsb hr
        have HSn := HS.out wr false hsb
        have HR : Hid (Rd wr Bd s f none ∧ Md (fun b => b = s ∨ b = f) w wr ∧ lsS prS st = none) := ⟨hr, hm, by rw [HL.out.1]; exact rpS_stop eats_pr hst (by omega)⟩
        clear hsb hr hm hst hb hown HS HK66
        go_wp2_with fail
        refine HSn.mono ?_
        rintro e w2 ⟨rfl, rfl⟩
        go_wp2
        go_ret
        refine ⟨_, k, rfl, ⟨a, c, rfl⟩, by rw [HR.out.2.2]; exact HR.out.1, HR.out.2.1, fun L hL => ?_⟩
        rw [HR.out.2.2] at hL
        cases hL
      | some L =>
        rw [hst] at hsb hr
        have HSn := HS.out wr true hsb
        obtain ⟨L0, e0, l0⟩ := rpS_len eats_pr _ _ _ hst
        have hkL : k ≤ 8388608 := by have := HLn.out L0 e0; omega
        have hsm : Sm (some L) := by rw [← hst]; exact rpS_sm eats_pr _ _ HSm.out
        have HC := HK66.out wr (some L) hr hsm
        have HR : Hid (wr.ownsRow w.heap.size 81 2 (.slice a k c) k (pcs (rpV prV prS k st1)) ∧ Rd wr Bd s f (some L) ∧ Md (fun b => b = s ∨ b = f) w wr ∧ wr.heap[g]? = some (.cells #[Ft, .func (.func ks) #[] #[.pointer (some ⟨s, 0, none⟩)]] 89 (0, 0)) ∧ rpS prS k st1 = some L) := ⟨hown, hr, hm, hb, hst⟩
        clear hsb hr hm hst hb hown HS HK66 e0 l0 hsm hk8
        go_wp2_with fail
        refine HSn.mono ?_
        rintro e w2 ⟨rfl, rfl⟩
        go_wp2_with fail
        refine HC.mono ?_
        rintro e w3 ⟨rfl, hr3, hm3⟩
        have hns : ∀ j, (Value.slice a k c).ownBlock = some j → ¬ (j = s ∨ j = f) := fun j hj => by have h1 := (HR.out.1.lt j hj).1; have := HG.out; omega
        have hown3 := own_md HR.out.1 hm3 hns
        have hb3 := keep_blk HR.out.2.2.2.1 hm3 (by have := HG.out; omega)
        have hM3 := HR.out.2.2.1.then hm3 (fun b _ h => h)
        have hw3s := hM3.size
        have H3 : Hid (Rd w3 Bd s f (prS (some L)) ∧ Md (fun b => b = s ∨ b = f) w w3 ∧ w3.heap[g]? = some (.cells #[Ft, .func (.func ks) #[] #[.pointer (some ⟨s, 0, none⟩)]] 89 (0, 0))) := ⟨hr3, hM3, hb3⟩
        clear hr3 hm3 hns hb3 hM3
        go_wp2_with (at_builtin; refine wpList_append_own _ rfl (.tmp 18) (.tmp 22) 26 rfl w.heap.size 81 i0 (.agg #[.string ⟨#[]⟩, .string ⟨#[]⟩]) 2 32 Tryz.underlying26 hi hz0 hz1 hz2 rfl (by decide) _ k _ rfl (hown3.alloc _) ⟨w3.heap.size, 0, none⟩ 1 1 [.string (txV (some L)), .string (txV (tkS T1 (some L)))] rfl rfl (cell_two_new _ _ _ _) (by intro u hu; simp at hu; rcases hu with rfl | rfl <;> rfl) (by unfold maxLen; omega) (by omega) (by simp; omega) ?_; intro v5 w5 hown5 hgrow5 _)
        go_roundw
        case rel =>
          have hlow := hown3.lt
          have hA : Md (fun b => b = s ∨ b = f) w (w3.alloc (.cells #[.string (txV (some L)), .string (txV (tkS T1 (some L)))] 81)) := H3.out.2.1.alloc _
          have hRA := H3.out.1.other ((Below.refl _ w3).alloc (Nat.le_refl _) (.cells #[.string (txV (some L)), .string (txV (tkS T1 (some L)))] 81))
          have hbA := keep_blk H3.out.2.2 ((Md.refl (fun _ => False) w3).alloc (.cells #[.string (txV (some L)), .string (txV (tkS T1 (some L)))] 81)) (fun h => h)
          refine ⟨k + 1, by omega, by omega, ?_, ?_, hA.grown hgrow5 (fun j hj => (hlow j hj).1), ?_⟩
          · rw [rpV_succ, pcs_append, HR.out.2.2.2.2]
            exact hown5
          · rw [rpS_succ, HR.out.2.2.2.2]
            refine hRA.md (Md.ofGrown hgrow5) (fun h => ?_) (fun h => ?_) (fun b hb h => ?_)
            · have := (hlow s h).1; have := HG.out; omega
            · have := (hlow f h).1; have := HG.out; omega
            · have := (hlow b h).1; have := HG.out; omega
          · exact keep_blk hbA (Md.ofGrown hgrow5) (fun h => own_ne (hown3.alloc _) hbA (by decide) g h rfl)
        case measure =>
          obtain ⟨a5, c5, rfl⟩ := own_slice hown5
          simp [slLen]
          omega
    · obtain rfl : k = N := by omega
      have HR : Hid (wr.ownsRow w.heap.size 81 2 (.slice a k c) k (pcs (rpV prV prS k st1)) ∧ Rd wr Bd s f (rpS prS k st1) ∧ Md (fun b => b = s ∨ b = f) w wr) := ⟨hown, hr, hm⟩
      clear hown hr hm hb
      go_wp2
      go_ret
      refine ⟨_, k, rfl, ⟨a, c, rfl⟩, by rw [HL.out.1]; exact HR.out.2.1, HR.out.2.2, fun L hL => ?_⟩
      rw [HL.out.2]
      exact ⟨HR.out.1, (rpV_len _ _ _ _).symm⟩
end Go.Proofs.YtbhiabcgjnfpoaaGreatDoor
