/-
  A reader in memory (a box that holds what is left), and its small steps: take, white.
-/
import Derived.Test.YtohkocknpmnakaaGreatDoorRun01
import Derived.Test.YtohkocknpmnakaaGreatDoorCount
import Derived.Laws.Rows
namespace Go.Proofs.YtohkocknpmnakaaGreatDoor
open Go.RowKit

theorem cell_blk {w : World} {g : Nat} {c : Array Value} {t : TypeId} (h : w.heap[g]? = some (.cells c t (0, 0))) (j : Nat) : w.cell? ⟨g, j, none⟩ = c[j]? := by simp [World.cell?, h]
theorem frozen_blk {w : World} {g : Nat} {c : Array Value} {t : TypeId} (h : w.heap[g]? = some (.cells c t (0, 0))) (j : Nat) : w.frozen? ⟨g, j, none⟩ = false := by
  simp only [World.frozen?, h]
  rw [Bool.and_eq_false_iff]
  right
  exact decide_eq_false (by omega)
theorem set_blk {w : World} {g : Nat} {c : Array Value} {t : TypeId} (h : w.heap[g]? = some (.cells c t (0, 0))) (j : Nat) (u : Value) : (w.setCell ⟨g, j, none⟩ u).heap[g]? = some (.cells (c.setIfInBounds j u) t (0, 0)) := by
  simp only [World.setCell, Array.getElem?_modify]
  rw [if_pos trivial, h]
  simp
theorem blk_lt {w : World} {g : Nat} {o : Obj} (h : w.heap[g]? = some o) : g < w.heap.size := (Array.getElem?_eq_some_iff.1 h).1

/-- Of what was there only the blocks of F may have turned. -/
structure Md (F : Nat → Prop) (w w' : World) : Prop where
  os : w'.os = w.os
  tape : w'.tape = w.tape
  output : w'.output = w.output
  size : w.heap.size ≤ w'.heap.size
  block : ∀ b, b < w.heap.size → ¬ F b → w'.heap[b]? = w.heap[b]?
theorem Md.refl (F : Nat → Prop) (w : World) : Md F w w := ⟨rfl, rfl, rfl, Nat.le_refl _, fun _ _ _ => rfl⟩
theorem Md.trans {F : Nat → Prop} {w w1 w2 : World} (h : Md F w w1) (g : Md F w1 w2) : Md F w w2 :=
  ⟨g.os.trans h.os, g.tape.trans h.tape, g.output.trans h.output, Nat.le_trans h.size g.size, fun b hb h1 => (g.block b (Nat.lt_of_lt_of_le hb h.size) h1).trans (h.block b hb h1)⟩
theorem Md.below {F : Nat → Prop} {w w1 w2 : World} (h : Md F w w1) (hb : Below w1.heap.size w1 w2) : Md F w w2 :=
  h.trans ⟨hb.os, hb.tape, hb.output, hb.size, fun b hlt _ => hb.block b hlt⟩
theorem Md.set {F : Nat → Prop} {w w1 : World} (h : Md F w w1) {p : Nat} (hp : F p ∨ w.heap.size ≤ p) (j : Nat) (v : Value) : Md F w (w1.setCell ⟨p, j, none⟩ v) :=
  ⟨h.os, h.tape, h.output, Nat.le_trans h.size (by simp [World.setCell]), fun b hb h1 => (Below.heap_setCell _ _ _ _ (by
    show b ≠ p
    rintro rfl
    rcases hp with hp | hp
    · exact h1 hp
    · omega)).trans (h.block b hb h1)⟩
theorem Md.alloc {F : Nat → Prop} {w w1 : World} (h : Md F w w1) (o : Obj) : Md F w (w1.alloc o) := h.below ((Below.refl _ _).alloc (Nat.le_refl _) o)
theorem Md.mono {F G : Nat → Prop} {w w1 : World} (h : Md F w w1) (hF : ∀ b, b < w.heap.size → F b → G b) : Md G w w1 :=
  ⟨h.os, h.tape, h.output, h.size, fun b hb hg => h.block b hb (fun hf => hg (hF b hb hf))⟩
/-- A step that may turn, besides, blocks that are new. -/
theorem Md.then {F G : Nat → Prop} {w w1 w2 : World} (h : Md F w w1) (g : Md G w1 w2) (hG : ∀ b, b < w.heap.size → G b → F b) : Md F w w2 :=
  ⟨g.os.trans h.os, g.tape.trans h.tape, g.output.trans h.output, Nat.le_trans h.size g.size, fun b hb h1 => (g.block b (Nat.lt_of_lt_of_le hb h.size) (fun hg => h1 (hG b hb hg))).trans (h.block b hb h1)⟩
theorem Md.toBelow {F : Nat → Prop} {B : Nat} {w0 w w' : World} (hb : Below B w0 w) (h : Md F w w') (hF : ∀ b, b < B → ¬ F b) (hB : B ≤ w0.heap.size) : Below B w0 w' :=
  ⟨h.os.trans hb.os, h.tape.trans hb.tape, h.output.trans hb.output, Nat.le_trans hb.size h.size, fun b hlt => (h.block b (by have := hb.size; omega) (hF b hlt)).trans (hb.block b hlt)⟩
theorem Md.ofBelow {F : Nat → Prop} {w w' : World} (hb : Below w.heap.size w w') : Md F w w' := (Md.refl F w).below hb
theorem keep_blk {F : Nat → Prop} {w w' : World} {g : Nat} {o : Obj} (h : w.heap[g]? = some o) (hm : Md F w w') (hF : ¬ F g) : w'.heap[g]? = some o := (hm.block g (blk_lt h) hF).trans h

/-- A reader's box. -/
def Rd (w : World) (p : Nat) (l : List UInt8) : Prop := w.heap[p]? = some (.cells #[.string ⟨l.toArray⟩] 55 (0, 0))
theorem Rd.keep {F : Nat → Prop} {w w' : World} {p : Nat} {l : List UInt8} (h : Rd w p l) (hm : Md F w w') (hF : ¬ F p) : Rd w' p l := keep_blk h hm hF
theorem Rd.lt {w : World} {p : Nat} {l : List UInt8} (h : Rd w p l) : p < w.heap.size := blk_lt h
theorem mk_list (s : ByteArray) : s = ⟨s.data.toList.toArray⟩ := by simp
theorem mk_ext (l : List UInt8) (a b : Nat) : (⟨l.toArray⟩ : ByteArray).extract a b = ⟨((l.take b).drop a).toArray⟩ := by
  rw [mk_list ((⟨l.toArray⟩ : ByteArray).extract a b)]
  congr 2
  rw [ByteArray.data_extract, Array.toList_extract, List.extract_eq_take_drop, List.drop_take]
theorem mk_size (l : List UInt8) : (⟨l.toArray⟩ : ByteArray).size = l.length := by simp [ByteArray.size]

set_option maxHeartbeats 400000 in
theorem take_any (p : Nat) (l : List UInt8) (x : ByteArray) (w : World) (h : Rd w p l) :
    Calls Tryz.prog 52 #[.pointer (some ⟨p, 0, none⟩), .string x] w fun e w' => e = .returned (.bool (Lib.hasPrefix l x.data.toList)) ∧ Rd w' p (Lib.trimPrefix l x.data.toList) ∧ Md (fun b => b = p) w w' := by
  have c0 := cell_blk h 0
  have f0 := frozen_blk h 0
  simp only [List.getElem?_toArray] at c0
  have H := (show Hid (Rd w p l) from h)
  clear h
  go_enter Tryz.func52, Tryz.ntmps52
  go_wp2_with (go_at_call 79; refine (strings_CutPrefix _ _ _).mono ?_; rintro e w' ⟨rfl, rfl⟩)
  go_ret
  exact ⟨rfl, (set_blk H.out 0 _).trans rfl, (Md.refl (fun b => b = p) _).set (.inl rfl) 0 _⟩
theorem take_yes (p : Nat) (l r : List UInt8) (x : ByteArray) (w : World) (h : Rd w p l) (he : eat x.data.toList l = some r) :
    Calls Tryz.prog 52 #[.pointer (some ⟨p, 0, none⟩), .string x] w fun e w' => e = .returned (.bool true) ∧ Rd w' p r ∧ Md (fun b => b = p) w w' := by
  refine (take_any p l x w h).mono ?_
  rintro e w' ⟨rfl, h1, h2⟩
  unfold eat at he
  split at he
  · next hp =>
    unfold Lib.trimPrefix at h1
    rw [if_pos hp] at h1
    simp only [Option.some.injEq] at he
    rw [he] at h1
    exact ⟨by rw [hp], h1, h2⟩
  · cases he
theorem take_no (p : Nat) (l : List UInt8) (x : ByteArray) (w : World) (h : Rd w p l) (he : eat x.data.toList l = none) :
    Calls Tryz.prog 52 #[.pointer (some ⟨p, 0, none⟩), .string x] w fun e w' => e = .returned (.bool false) ∧ Rd w' p l ∧ Md (fun b => b = p) w w' := by
  refine (take_any p l x w h).mono ?_
  rintro e w' ⟨rfl, h1, h2⟩
  unfold eat at he
  split at he
  · cases he
  · next hp =>
    unfold Lib.trimPrefix at h1
    rw [if_neg hp] at h1
    have hp' : Lib.hasPrefix l x.data.toList = false := by simpa using hp
    exact ⟨by rw [hp'], h1, h2⟩

theorem trim_skp (l : List UInt8) : Lib.trimLeftS l [32, 9, 10, 13] = skp l := by
  unfold Lib.trimLeftS skp
  congr 1
  funext c
  rw [Bool.eq_iff_iff]
  simp only [List.contains_iff_mem, List.mem_cons, List.not_mem_nil, or_false, wsB, wsZ, decide_eq_true_eq]
  constructor
  · rintro (rfl | rfl | rfl | rfl) <;> decide
  · rintro (h | h | h | h)
    · left; exact UInt8.toNat_inj.1 (by simp; omega)
    · right; left; exact UInt8.toNat_inj.1 (by simp; omega)
    · right; right; left; exact UInt8.toNat_inj.1 (by simp; omega)
    · right; right; right; exact UInt8.toNat_inj.1 (by simp; omega)
set_option maxHeartbeats 400000 in
theorem white_any (p : Nat) (l : List UInt8) (w : World) (h : Rd w p l) :
    Calls Tryz.prog 28 #[.pointer (some ⟨p, 0, none⟩)] w fun e w' => e = .returned (.bool (decide ((skp l).length < l.length))) ∧ Rd w' p (skp l) ∧ Md (fun b => b = p) w w' := by
  have c0 := cell_blk h 0
  simp only [List.getElem?_toArray] at c0
  have H := (show Hid (Rd w p l) from h)
  have HT : Hid (Calls Tryz.prog 55 #[.string ⟨l.toArray⟩, .string ⟨#[32, 9, 10, 13]⟩] w fun e w' => e = .returned (.string ⟨(skp l).toArray⟩) ∧ Below w.heap.size w w') := by
    rw [← trim_skp]
    exact strings_TrimLeft ⟨l.toArray⟩ w
  have hle := skp_le l
  clear h
  generalize hq : skp l = q at *
  clear hq
  go_enter Tryz.func28, Tryz.ntmps28
  go_wp2_with fail
  refine HT.out.mono ?_
  rintro e w1 ⟨rfl, hb⟩
  have m1 : Md (fun b => b = p) w w1 := Md.ofBelow hb
  have r1 : Rd w1 p l := (hb.block p (Rd.lt H.out)).trans H.out
  have c1 := cell_blk r1 0
  have f1 := frozen_blk r1 0
  simp only [List.getElem?_toArray] at c1
  have H1 := (show Hid (Rd w1 p l ∧ Md (fun b => b = p) w w1) from ⟨r1, m1⟩)
  clear m1 r1 hb c0
  go_wp2
  go_ret
  exact ⟨rfl, (set_blk H1.out.1 0 _).trans rfl, H1.out.2.set (.inl rfl) _ _⟩
end Go.Proofs.YtohkocknpmnakaaGreatDoor
