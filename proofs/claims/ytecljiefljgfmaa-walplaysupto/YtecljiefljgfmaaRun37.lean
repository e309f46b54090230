/-
  A log on a new device.
-/
import Derived.Test.YtecljiefljgfmaaRun36
import Derived.Test.YtecljiefljgfmaaRun10
import Derived.Test.YtecljiefljgfmaaCore
import Derived.BigQuiet
namespace Go.Proofs.Ytecljiefljgfmaa
open Go.RowKit

theorem crc_zero : crcN (List.replicate 16 0) ≠ 0 := by decide +kernel
theorem fr_zero0 {S : List ByteArray} {g : G} (h : S[g.at']? = some zsec) : fr S g = none := by
  have hh := frHead_zero h
  by_cases he : stampL g = List.replicate 16 0
  · have hle : frLead S g = 0 := by rw [frLead, hh]; rfl
    have hln : frLen S g = 0 := by rw [frLen, hle]
    have ha : frAll S g = List.replicate 24 0 := by rw [frAll, hln]; exact hh
    refine fr_none4 ?_
    rw [ha, hle]
    exact crc_zero
  · refine fr_none2 ?_
    rw [hh]
    intro e
    exact he e.symm
theorem new_held {n p k ep : Nat} (hk : 1 ≤ k) (hn : p + k ≤ n) (hn4 : n ≤ 4096) (hep : ep < 18446744073709551616) : Held (D.new n blank) (G.new p k ep) (G.new p k ep) [] := by
  refine ⟨⟨rfl, rfl, rfl, ?_⟩, rfl, ?_, ⟨by simp [G.new], by simp [G.new]; omega, hep, by simp [G.new]⟩, by simp [G.new], by simp [G.new, D.new]; omega, rfl⟩
  · intro x hx
    simp only [D.new, List.mem_replicate] at hx
    rw [hx.2]
    exact zsec_size
  · refine fr_zero0 ?_
    simp only [D.new, G.new]
    rw [List.getElem?_replicate, if_pos (by omega)]
    rfl
end Go.Proofs.Ytecljiefljgfmaa
/-
  'awake' by its contract.
-/
namespace Go.Proofs.Ytecljiefljgfmaa
open Go.RowKit

def recA : List ByteArray := [⟨#[97]⟩]
theorem recA_tot : tot recA = 5 := rfl
theorem recA_need : needN recA = 1 := rfl
theorem recA_strs (w : World) : Strs (w.alloc (.cells #[.string ⟨#[97]⟩] 9)) (some ⟨w.heap.size, 0, none⟩) recA := by
  refine .inr ⟨w.heap.size, 0, rfl, by simp, ?_⟩
  intro j hj
  simp only [recA, List.length_cons, List.length_nil, Nat.zero_add, Nat.lt_one_iff] at hj
  subst hj
  exact cell_blk (heap_alloc_new w _) 0

set_option maxHeartbeats 4000000 in
set_option maxRecDepth 20000 in
theorem awake_any (w : World) : Calls Try.prog 9 #[] w fun e w' => e = .returned (.bool true) ∧ Below w.heap.size w w' := by
  have hnew := new_ok 8 w (by omega) (by omega)
  go_enter Try.func9, Try.ntmps9
  go_wp2_with fail
  refine Calls.mono hnew ?_
  rintro e w1 ⟨d, rfl, hD1, hb1⟩
  clear hnew
  have hh := new_held (n := 8) (p := 2) (k := 4) (ep := 0) (by omega) (by omega) (by omega) (by omega)
  have hop := open_ok d 2 4 0 w1 _ _ hD1 (by simp [D.new]) hh.calm.sz (by omega) (by simp [D.new]) (by omega)
  rw [hh.opened] at hop
  have HD1 : Hid (Dev w1 (fun k => w.heap.size ≤ k ∧ k < w1.heap.size) d (D.new 8 blank)) := hD1
  have HB1 : Hid (Below w.heap.size w w1) := hb1
  have HH := (show Hid _ from hh)
  clear hD1 hb1 hh
  go_wp2_with fail
  refine Calls.mono hop ?_
  rintro e w2 ⟨l, v, rfl, hL2, hF2, hl1, hl2, hok, _, hb2⟩
  obtain ⟨va, vc, rfl⟩ := hF2.shape
  have HB2 : Hid (Below w.heap.size w w2) := HB1.out.trans (hb2.mono HB1.out.size)
  have hbw3 : Below w2.heap.size w2 (w2.alloc (.cells #[.string ⟨#[97]⟩] 9)) := (Below.refl _ _).alloc (Nat.le_refl _) _
  have hD2 : Dev w2 (fun k => w.heap.size ≤ k ∧ k < w1.heap.size) d (D.new 8 blank) := HD1.out.below hb2
  have hap := append_any l d (G.new 2 4 0) (some ⟨w2.heap.size, 0, none⟩) recA 1 (w2.alloc (.cells #[.string ⟨#[97]⟩] 9)) _ _ (hD2.below hbw3) ((hbw3.block l hl2).trans hL2) hok (by omega) (recA_strs w2) (by
    intro _ ad e
    simp only [Option.some.injEq] at e
    subst e
    have := hb2.size
    simp
    omega) (by rw [recA_tot]; omega) (by simp [D.new])
  obtain ⟨e1, e2, _, _⟩ := HH.out.append (L := recA) (by rw [recA_need]; simp [G.new]) (by simp [G.new])
  rw [e1, e2] at hap
  have hap2 : Calls Try.prog 15 #[.pointer (some ⟨l, 0, none⟩), .slice (some ⟨w2.heap.size, 0, none⟩) 1 1] (w2.alloc (.cells #[.string ⟨#[97]⟩] 9)) fun e w' => e = .returned (.int .i64 0) ∧ LogV w' l d ((G.new 2 4 0).pass recA) ∧ Below w.heap.size w w' := by
    refine Calls.mono hap ?_
    rintro e w3 ⟨rfl, _, q1, q2⟩
    refine ⟨rfl, q1, ?_⟩
    have hx : Below w.heap.size w (w2.alloc (.cells #[.string ⟨#[97]⟩] 9)) := HB2.out.alloc HB2.out.size _
    refine hx.trans (q2.below ?_ hx.size)
    intro k hk
    rcases hk with hk | rfl
    · exact hk.1
    · have := HB1.out.size
      omega
  clear hap hL2 hF2 hl1 hl2 hok hb2 hbw3 hD2 hop e1 e2
  go_upto_region 6 with (go_at_call 15; refine Calls.mono hap2 ?_; rintro e w3 ⟨rfl, hL3, hb3⟩)
  have hokp : ((G.new 2 4 0).pass recA).Ok := ⟨by simp [G.pass, G.new, recA_need], by simp [G.pass, G.new], by simp [G.pass, G.new], by simp [G.pass, G.new]⟩
  have hnx := next_any l d _ w3 hL3
  have hrm := room_any l d _ w3 hL3 hokp
  have hne := need_any (some ⟨w3.heap.size, 0, none⟩) recA 1 (w3.drew.alloc (.cells #[.string ⟨#[97]⟩] 9)) (by rw [recA_tot]; omega) (recA_strs w3.drew)
  rw [show ((G.new 2 4 0).pass recA).nx = 1 from rfl] at hnx
  rw [show ((G.new 2 4 0).pass recA).fin - ((G.new 2 4 0).pass recA).at' = 3 from rfl] at hrm
  rw [recA_need] at hne
  have HB3 : Hid (Below w.heap.size w w3) := hb3
  clear hap2 hL3 hokp hb3
  go_wp2_with (first
    | (go_at_call 25; refine Calls.mono hnx ?_; rintro e w4 ⟨rfl, rfl⟩)
    | (go_at_call 26; refine Calls.mono hrm ?_; rintro e w4 ⟨rfl, rfl⟩)
    | (go_at_call 17; refine Calls.mono hne ?_; rintro e w4 ⟨rfl, rfl⟩))
  go_ret
  exact ⟨rfl, HB3.out.drew.alloc HB3.out.size _⟩
end Go.Proofs.Ytecljiefljgfmaa
/-
  A region that draws its order, whose operations only read and whose callees may lay new blocks: walked once, in the class of all worlds that stand above a world.
-/
namespace Go.Proofs.Ytecljiefljgfmaa
open Go.RowKit

/-- A world in which all that lay below B in the world w0 lies as it was. -/
structure Above (w0 : World) (B : Nat) where
  val : World
  ok : Below B w0 val
instance (w0 : World) (B : Nat) : Nonempty (Above w0 B) := ⟨⟨w0, Below.refl _ _⟩⟩

theorem wp_region_above {P : Program} {id : Nat} {Q : Exit → Act → World → Prop} {a : Act} {w : World} {l : List Oper} (w0 : World) (B : Nat) (hm : P.follows .mixedOrders = true) (hB : Region.lexB .any l.toArray = true)
    (hb : Below B w0 w) (h : wpQuiet P l.toArray (fun w' => ∃ n : Above w0 B, w' = n.val) (fun a' => ∀ w', (∃ n : Above w0 B, w' = n.val) → Q .normal a' w') l a) : (Code.region id l.toArray true).wp P Q a w :=
  wp_region_quiet (C := fun w' => ∃ n : Above w0 B, w' = n.val) hm hB ⟨⟨_, hb.drew⟩, rfl⟩ (by simpa using h)
theorem above_same {P : Program} {f : FuncId} {args : Array Value} {w0 : World} {B : Nat} {n : Above w0 B} {v : Value}
    (h : Calls P f args n.val fun e w' => e = .returned v ∧ w' = n.val) : Calls P f args n.val fun e w'' => e = .returned v ∧ ∃ m : Above w0 B, w'' = m.val :=
  h.mono fun _ _ ⟨he, hm⟩ => ⟨he, n, hm⟩
theorem above_below {P : Program} {f : FuncId} {args : Array Value} {w0 : World} {n : Above w0 w0.heap.size} {v : Value}
    (h : Calls P f args n.val fun e w' => e = .returned v ∧ Below n.val.heap.size n.val w') : Calls P f args n.val fun e w'' => e = .returned v ∧ ∃ m : Above w0 w0.heap.size, w'' = m.val :=
  h.mono fun _ w'' ⟨he, hm⟩ => ⟨he, ⟨w'', n.ok.trans (hm.mono n.ok.size)⟩, rfl⟩
end Go.Proofs.Ytecljiefljgfmaa
