/-
  Load by its contract.
-/
import Derived.Test.YtecljiefljgfmaaSlot
namespace Go.Proofs.Ytecljiefljgfmaa
open Go.RowKit

theorem slot_none (d p n : Nat) (w : World) (F : Nat → Prop) (M : D) (h : Dev w F d M) (hs : M.st ≠ 2) (hS : ∀ x ∈ M.S, x.size = 256) (h1 : 1 ≤ n) (hn : p + n ≤ M.L.length) (hR : slotR M.S p n = none) :
    Calls Try.prog 65 #[.pointer (some ⟨d, 0, none⟩), .int .i64 (p : Int), .int .i64 (n : Int)] w fun e w' => e = .returned (.tuple #[.agg #[.int .u64 0, .slice none 0 0], .bool false, .int .i64 0]) ∧ Below w.heap.size w w' := by
  cases hf : fitsB n (slotSz M.S p) with
  | false => exact slot_nofit d p n w F M h hs hS h1 hn hf
  | true =>
    have hne : slotHead M.S p ≠ headL (slotEp M.S p) (slotSt M.S p) := by
      intro e
      rw [slotR, if_pos ⟨hf, e⟩] at hR
      cases hR
    refine Calls.mono (slot_fit d p n w F M h hs hS h1 hn hf false (decide_eq_false hne).symm) ?_
    rintro e w' ⟨a, c, rfl, _, _, _, _, hb⟩
    exact ⟨rfl, hb⟩
theorem slot_some (d p n ep : Nat) (st : List UInt8) (w : World) (F : Nat → Prop) (M : D) (h : Dev w F d M) (hs : M.st ≠ 2) (hS : ∀ x ∈ M.S, x.size = 256) (h1 : 1 ≤ n) (hn : p + n ≤ M.L.length) (hR : slotR M.S p n = some (ep, st)) :
    Calls Try.prog 65 #[.pointer (some ⟨d, 0, none⟩), .int .i64 (p : Int), .int .i64 (n : Int)] w fun e w' => ∃ a c, e = .returned (.tuple #[.agg #[.int .u64 (ep : Int), .slice a st.length c], .bool true, .int .i64 0]) ∧ Bytes w' a st ∧ (∀ ad, a = some ad → w.heap.size ≤ ad.block) ∧ (a = none → c = 0) ∧ st.length ≤ c ∧ Below w.heap.size w w' := by
  have hlen := h.1.len
  have hc : fitsB n (slotSz M.S p) = true ∧ slotHead M.S p = headL (slotEp M.S p) (slotSt M.S p) := by
    by_cases hc : fitsB n (slotSz M.S p) = true ∧ slotHead M.S p = headL (slotEp M.S p) (slotSt M.S p)
    · exact hc
    · rw [slotR, if_neg hc] at hR
      cases hR
  rw [slotR, if_pos hc] at hR
  simp only [Option.some.injEq, Prod.mk.injEq] at hR
  obtain ⟨rfl, rfl⟩ := hR
  have hfn : sect (slotSz M.S p) ≤ n - 1 := by
    have hf := hc.1
    simp only [fitsB, decide_eq_true_eq, Int.toNat_natCast] at hf
    omega
  have hstl : (slotSt M.S p).length = slotSz M.S p := by
    rw [slotSt, List.length_take, secs_length hS (by omega)]
    have := sect_le (slotSz M.S p)
    omega
  rw [hstl]
  refine Calls.mono (slot_fit d p n w F M h hs hS h1 hn hc.1 true (decide_eq_true hc.2).symm) ?_
  rintro e w' ⟨a, c, rfl, h1, h2, h3, h4, h5⟩
  exact ⟨a, c, rfl, h1, h2, h3, h4, h5⟩

/-- What a slot tells: the whole state that lies in it, if it is its own epoch's. -/
def slotQ (S : List ByteArray) (p n j : Nat) : Option (Nat × List UInt8) := match slotR S p n with
  | none => none
  | some x => if x.1 % 2 = j then some x else none
def better (a b : Option (Nat × List UInt8)) : Option (Nat × List UInt8) := match a, b with
  | a, none => a
  | none, some y => some y
  | some x, some y => if y.1 < x.1 then some x else some y
def loadF (S : List ByteArray) (p n : Nat) : Option (Nat × List UInt8) := better (slotQ S p n 0) (slotQ S (p + n) n 1)

/-- What Load has found up to a slot, and the box in which it lies. -/
def acc (S : List ByteArray) (p n : Nat) : Nat → Option (Nat × List UInt8)
  | 0 => none
  | 1 => slotQ S p n 0
  | _ => loadF S p n
def Box (w : World) (base nb : Nat) : Option (Nat × List UInt8) → Prop
  | none => w.heap[nb]? = some (.cells #[.int .u64 0, .slice none 0 0] 113 (0, 0))
  | some x => ∃ a c, w.heap[nb]? = some (.cells #[.int .u64 (x.1 : Int), .slice a x.2.length c] 113 (0, 0)) ∧ Bytes w a x.2 ∧ ∀ ad, a = some ad → base ≤ ad.block ∧ ad.block ≠ nb
theorem Box.lt {w : World} {base nb : Nat} {o : Option (Nat × List UInt8)} (h : Box w base nb o) : nb < w.heap.size := by
  cases o with
  | none => exact (Array.getElem?_eq_some_iff.1 h).1
  | some x => obtain ⟨a, c, h, _⟩ := h; exact (Array.getElem?_eq_some_iff.1 h).1
theorem Box.below {w w' : World} {base nb : Nat} {o : Option (Nat × List UInt8)} (h : Box w base nb o) (hb : Below w.heap.size w w') : Box w' base nb o := by
  have hl := h.lt
  cases o with
  | none => exact (hb.block nb hl).trans h
  | some x => obtain ⟨a, c, h1, h2, h3⟩ := h; exact ⟨a, c, (hb.block nb hl).trans h1, h2.below hb (Nat.le_refl _), h3⟩
def boxEp : Option (Nat × List UInt8) → Nat
  | none => 0
  | some x => x.1
/-- What Load answers. -/
def LoadR (base : Nat) (e : Ending) (w' : World) : Option (Nat × List UInt8) → Prop
  | none => e = .returned (.tuple #[.slice none 0 0, .int .u64 0, .int .i64 61])
  | some x => ∃ a c, e = .returned (.tuple #[.slice a x.2.length c, .int .u64 (x.1 : Int), .int .i64 0]) ∧ Bytes w' a x.2 ∧ (∀ ad, a = some ad → base ≤ ad.block)
theorem Box.cells {w : World} {base nb : Nat} {o : Option (Nat × List UInt8)} (h : Box w base nb o) : ∃ e a l c, w.heap[nb]? = some (.cells #[.int .u64 (e : Int), .slice a l c] 113 (0, 0)) ∧ e = boxEp o := by
  cases o with
  | none => exact ⟨0, none, 0, 0, h, rfl⟩
  | some x => obtain ⟨a, c, h1, _⟩ := h; exact ⟨x.1, a, _, c, h1, rfl⟩

theorem box_take {w3 : World} {base nb : Nat} {o : Option (Nat × List UInt8)} (h : Box w3 base nb o) (ep : Nat) (st : List UInt8) (a : Option Addr) (c : Nat) (hby : Bytes w3 a st) (hnb : ∀ ad, a = some ad → base ≤ ad.block ∧ ad.block ≠ nb) : Box ((w3.setCell ⟨nb, 0, none⟩ (.int .u64 (ep : Int))).setCell ⟨nb, 1, none⟩ (.slice a st.length c)) base nb (some (ep, st)) := by
  obtain ⟨e, a0, l0, c0, hb, _⟩ := h.cells
  refine ⟨a, c, box_set hb _ _, ?_, hnb⟩
  have hT : Turn (fun k => k = nb) w3 ((w3.setCell ⟨nb, 0, none⟩ (.int .u64 (ep : Int))).setCell ⟨nb, 1, none⟩ (.slice a st.length c)) := ((Turn.refl (fun k => k = nb) w3).setCell (p := ⟨nb, 0, none⟩) rfl _).setCell (p := ⟨nb, 1, none⟩) rfl _
  exact hby.turn hT fun ad e => (hnb ad e).2

set_option maxHeartbeats 4000000 in
set_option maxRecDepth 20000 in
theorem load_any (d p n : Nat) (w : World) (F : Nat → Prop) (M : D) (h : Dev w F d M) (hs : M.st ≠ 2) (hS : ∀ x ∈ M.S, x.size = 256) (h1 : 1 ≤ n) (hn : p + 2 * n ≤ M.L.length) :
    Calls Try.prog 33 #[.pointer (some ⟨d, 0, none⟩), .int .i64 (p : Int), .int .i64 (n : Int)] w fun e w' => LoadR w.heap.size e w' (loadF M.S p n) ∧ Below w.heap.size w w' := by
  have hw1 := swithin_yes d p n w F M h h1 hn
  have htop := h.1.top
  have hp4 : p ≤ 4096 := by omega
  have hn4 : n ≤ 4096 := by omega
  have HN0 : Hid (∀ q, Below w.heap.size w q → slotR M.S p n = none → Calls Try.prog 65 #[.pointer (some ⟨d, 0, none⟩), .int .i64 (p : Int), .int .i64 (n : Int)] q fun e w' => e = .returned (.tuple #[.agg #[.int .u64 0, .slice none 0 0], .bool false, .int .i64 0]) ∧ Below q.heap.size q w') := fun q hq hr => slot_none d p n q F M (h.below hq) hs hS h1 (by omega) hr
  have HN1 : Hid (∀ q, Below w.heap.size w q → slotR M.S (p + n) n = none → Calls Try.prog 65 #[.pointer (some ⟨d, 0, none⟩), .int .i64 ((p : Int) + (n : Int)), .int .i64 (n : Int)] q fun e w' => e = .returned (.tuple #[.agg #[.int .u64 0, .slice none 0 0], .bool false, .int .i64 0]) ∧ Below q.heap.size q w') := fun q hq hr => by
    have := slot_none d (p + n) n q F M (h.below hq) hs hS h1 (by omega) hr
    rwa [show ((p + n : Nat) : Int) = (p : Int) + (n : Int) from by omega] at this
  have HS0 : Hid (∀ q ep st, Below w.heap.size w q → slotR M.S p n = some (ep, st) → Calls Try.prog 65 #[.pointer (some ⟨d, 0, none⟩), .int .i64 (p : Int), .int .i64 (n : Int)] q fun e w' => ∃ a c, e = .returned (.tuple #[.agg #[.int .u64 (ep : Int), .slice a st.length c], .bool true, .int .i64 0]) ∧ Bytes w' a st ∧ (∀ ad, a = some ad → q.heap.size ≤ ad.block) ∧ (a = none → c = 0) ∧ st.length ≤ c ∧ Below q.heap.size q w') := fun q ep st hq hr => slot_some d p n ep st q F M (h.below hq) hs hS h1 (by omega) hr
  have HS1 : Hid (∀ q ep st, Below w.heap.size w q → slotR M.S (p + n) n = some (ep, st) → Calls Try.prog 65 #[.pointer (some ⟨d, 0, none⟩), .int .i64 ((p : Int) + (n : Int)), .int .i64 (n : Int)] q fun e w' => ∃ a c, e = .returned (.tuple #[.agg #[.int .u64 (ep : Int), .slice a st.length c], .bool true, .int .i64 0]) ∧ Bytes w' a st ∧ (∀ ad, a = some ad → q.heap.size ≤ ad.block) ∧ (a = none → c = 0) ∧ st.length ≤ c ∧ Below q.heap.size q w') := fun q ep st hq hr => by
    have := slot_some d (p + n) n ep st q F M (h.below hq) hs hS h1 (by omega) hr
    rwa [show ((p + n : Nat) : Int) = (p : Int) + (n : Int) from by omega] at this
  clear h hs hS hn
  go_enter Try.func33, Try.ntmps33
  go_wp2_with (go_at_call 60; refine Calls.mono hw1 ?_; rintro e w1 ⟨rfl, rfl⟩)
  clear hw1
  have hbox0 : Box (w.alloc (.cells #[.int .u64 0, .slice none 0 0] 113)) w.heap.size w.heap.size none := heap_alloc_new w _
  have hb0 : Below w.heap.size w (w.alloc (.cells #[.int .u64 0, .slice none 0 0] 113)) := (Below.refl _ _).alloc (Nat.le_refl _) _
  obtain ⟨W, hW⟩ : ∃ W, W = w.alloc (.cells #[.int .u64 0, .slice none 0 0] 113) := ⟨_, rfl⟩
  rw [← hW] at hbox0 hb0 ⊢
  clear hW
  obtain ⟨nb, hnb⟩ : ∃ nb, nb = w.heap.size := ⟨_, rfl⟩
  have hbox1 : Box W w.heap.size nb none := by rw [hnb]; exact hbox0
  have HNB : Hid (w.heap.size ≤ nb) := (show _ ≤ _ from by omega)
  have hpt : (Value.pointer (some ⟨w.heap.size, 0, none⟩)) = .pointer (some ⟨nb, 0, none⟩) := by rw [hnb]
  rw [hpt]
  clear hpt hnb hbox0
  go_loopw [10, 20] (fun f i wr => ∃ k : Nat, k ≤ 2 ∧ i = .int .i64 k ∧ f = .bool (acc M.S p n k).isSome ∧ Box wr w.heap.size nb (acc M.S p n k) ∧ Below w.heap.size w wr) (fun _ i _ => 2 - (intOf i).toNat)
  case atStart => exact ⟨0, by omega, rfl, rfl, hbox1, hb0⟩
  case round =>
    obtain ⟨k, hk, rfl, rfl, hbox, hbw⟩ := hrel
    clear hbox1 hb0
    rcases (by omega : k = 0 ∨ k = 1 ∨ k = 2) with rfl | rfl | rfl
    · have hf0 : (acc M.S p n 0).isSome = false := rfl
      rw [hf0]
      rcases hR : slotR M.S p n with _ | ⟨ep, st⟩
      · have HA : Hid (acc M.S p n 1 = acc M.S p n 0) := (show _ = _ from by simp [acc, slotQ, hR])
        have hsl := HN0.out wr hbw hR
        go_upto_region 9 with (go_at_call 65; (with_reducible refine Calls.mono hsl ?_); rintro e w2 ⟨rfl, hb2⟩)
        obtain ⟨w3, hw3⟩ : ∃ w3, w3 = w2.alloc (.cells #[.int .u64 0, .slice none 0 0] 113) := ⟨_, rfl⟩
        have hb23 : Below w2.heap.size w2 w3 := by rw [hw3]; exact (Below.refl _ _).alloc (Nat.le_refl _) _
        have hb3 : Below wr.heap.size wr w3 := hb2.trans (hb23.mono hb2.size)
        have HF : Hid (Box w3 w.heap.size nb (acc M.S p n 0) ∧ Below w.heap.size w w3) := ⟨hbox.below hb3, hbw.trans (hb3.mono hbw.size)⟩
        rw [← hw3]
        clear hw3 hb23 hb3 hb2 hsl hbox hbw
        go_wp2
        go_roundw
        case rel => exact ⟨1, by omega, by go_num, by rw [HA.out]; rfl, by rw [HA.out]; exact HF.out.1, HF.out.2⟩
        case measure => simp [intOf]
      · have HRR : Hid (slotR M.S p n = some (ep, st)) := hR
        rcases (by omega : ep % 2 = 0 ∨ ep % 2 = 1) with h2 | h2
        · have HA : Hid (acc M.S p n 1 = some (ep, st)) := (show _ = _ from by simp [acc, slotQ, hR, h2])
          have hpar : (ep : Int) % 2 = 0 := by omega
          have hsl := HS0.out wr ep st hbw hR
          go_upto_region 9 with (go_at_call 65; (with_reducible refine Calls.mono hsl ?_); rintro e w2 ⟨a2, c2, rfl, hby2, hnb2, hno2, hc2, hb2⟩)
          obtain ⟨w3, hw3⟩ : ∃ w3, w3 = w2.alloc (.cells #[.int .u64 (ep : Int), .slice a2 st.length c2] 113) := ⟨_, rfl⟩
          obtain ⟨t, ht⟩ : ∃ t, t = w2.heap.size := ⟨_, rfl⟩
          have hblk3 : w3.heap[t]? = some (.cells #[.int .u64 (ep : Int), .slice a2 st.length c2] 113 (0, 0)) := by rw [hw3, ht]; exact heap_alloc_new w2 _
          have hb23 : Below w2.heap.size w2 w3 := by rw [hw3]; exact (Below.refl _ _).alloc (Nat.le_refl _) _
          have hb3 : Below wr.heap.size wr w3 := hb2.trans (hb23.mono hb2.size)
          have hbx3 := hbox.below hb3
          obtain ⟨eo, ao, lo, co, hbo, heo⟩ := hbx3.cells
          have hld : (loadVar 113 ⟨t, 0, none⟩).run Try.prog w3 = .ok (.agg #[.int .u64 (ep : Int), .slice a2 st.length c2]) w3 := box_load hblk3
          have d0 := cell_blk hblk3 0
          have d1 := cell_blk hblk3 1
          have c0 := cell_blk hbo 0
          have c1 := cell_blk hbo 1
          have f0 := frozen_blk hbo 0
          have f1 := frozen_blk hbo 1
          simp only [List.getElem?_toArray] at c0 c1 d0 d1
          have HF : Hid (Box w3 w.heap.size nb (acc M.S p n 0) ∧ Below w.heap.size w w3 ∧ Bytes w3 a2 st ∧ ∀ ad, a2 = some ad → w.heap.size ≤ ad.block ∧ ad.block ≠ nb) := ⟨hbx3, hbw.trans (hb3.mono hbw.size), hby2.below hb23 (Nat.le_refl _), fun ad e => by have h1 := hnb2 ad e; have h2 := hbox.lt; have h3 := hbw.size; exact ⟨by omega, by omega⟩⟩
          have hpt : (Value.pointer (some ⟨w2.heap.size, 0, none⟩)) = .pointer (some ⟨t, 0, none⟩) := by rw [ht]
          rw [← hw3, hpt]
          clear hw3 ht hpt hblk3 hb23 hb3 hb2 hsl hbox hbw hby2 hnb2 hbx3 hbo heo
          go_wp2
          go_roundw
          case rel => exact ⟨1, by omega, by go_num, by rw [HA.out]; rfl, by rw [HA.out]; exact box_take HF.out.1 ep st a2 c2 HF.out.2.2.1 HF.out.2.2.2, (HF.out.2.1.setCell HNB.out _).setCell HNB.out _⟩
          case measure => simp [intOf]
        · have HA : Hid (acc M.S p n 1 = acc M.S p n 0) := (show _ = _ from by simp [acc, slotQ, hR, h2])
          have hpar : (ep : Int) % 2 = 1 := by omega
          have hsl := HS0.out wr ep st hbw hR
          go_upto_region 9 with (go_at_call 65; (with_reducible refine Calls.mono hsl ?_); rintro e w2 ⟨a2, c2, rfl, hby2, hnb2, hno2, hc2, hb2⟩)
          obtain ⟨w3, hw3⟩ : ∃ w3, w3 = w2.alloc (.cells #[.int .u64 (ep : Int), .slice a2 st.length c2] 113) := ⟨_, rfl⟩
          obtain ⟨t, ht⟩ : ∃ t, t = w2.heap.size := ⟨_, rfl⟩
          have hblk3 : w3.heap[t]? = some (.cells #[.int .u64 (ep : Int), .slice a2 st.length c2] 113 (0, 0)) := by rw [hw3, ht]; exact heap_alloc_new w2 _
          have hb23 : Below w2.heap.size w2 w3 := by rw [hw3]; exact (Below.refl _ _).alloc (Nat.le_refl _) _
          have hb3 : Below wr.heap.size wr w3 := hb2.trans (hb23.mono hb2.size)
          have hbx3 := hbox.below hb3
          obtain ⟨eo, ao, lo, co, hbo, heo⟩ := hbx3.cells
          have hld : (loadVar 113 ⟨t, 0, none⟩).run Try.prog w3 = .ok (.agg #[.int .u64 (ep : Int), .slice a2 st.length c2]) w3 := box_load hblk3
          have d0 := cell_blk hblk3 0
          have d1 := cell_blk hblk3 1
          have c0 := cell_blk hbo 0
          have c1 := cell_blk hbo 1
          have f0 := frozen_blk hbo 0
          have f1 := frozen_blk hbo 1
          simp only [List.getElem?_toArray] at c0 c1 d0 d1
          have HF : Hid (Box w3 w.heap.size nb (acc M.S p n 0) ∧ Below w.heap.size w w3 ∧ Bytes w3 a2 st ∧ ∀ ad, a2 = some ad → w.heap.size ≤ ad.block ∧ ad.block ≠ nb) := ⟨hbx3, hbw.trans (hb3.mono hbw.size), hby2.below hb23 (Nat.le_refl _), fun ad e => by have h1 := hnb2 ad e; have h2 := hbox.lt; have h3 := hbw.size; exact ⟨by omega, by omega⟩⟩
          have hpt : (Value.pointer (some ⟨w2.heap.size, 0, none⟩)) = .pointer (some ⟨t, 0, none⟩) := by rw [ht]
          rw [← hw3, hpt]
          clear hw3 ht hpt hblk3 hb23 hb3 hb2 hsl hbox hbw hby2 hnb2 hbx3 hbo heo
          go_wp2
          go_roundw
          case rel => exact ⟨1, by omega, by go_num, by rw [HA.out]; rfl, by rw [HA.out]; exact HF.out.1, HF.out.2.1⟩
          case measure => simp [intOf]
    · rcases hR : slotR M.S (p + n) n with _ | ⟨ep, st⟩
      · have HA : Hid (acc M.S p n 2 = acc M.S p n 1) := (show _ = _ from by simp only [acc, loadF, slotQ, hR]; cases slotR M.S p n <;> simp [better])
        obtain ⟨fb, hfb⟩ : ∃ fb, fb = (acc M.S p n 1).isSome := ⟨_, rfl⟩
        rw [← hfb]
        have hsl := HN1.out wr hbw hR
        go_upto_region 9 with (go_at_call 65; (with_reducible refine Calls.mono hsl ?_); rintro e w2 ⟨rfl, hb2⟩)
        obtain ⟨w3, hw3⟩ : ∃ w3, w3 = w2.alloc (.cells #[.int .u64 0, .slice none 0 0] 113) := ⟨_, rfl⟩
        have hb23 : Below w2.heap.size w2 w3 := by rw [hw3]; exact (Below.refl _ _).alloc (Nat.le_refl _) _
        have hb3 : Below wr.heap.size wr w3 := hb2.trans (hb23.mono hb2.size)
        have HF : Hid (Box w3 w.heap.size nb (acc M.S p n 1) ∧ Below w.heap.size w w3) := ⟨hbox.below hb3, hbw.trans (hb3.mono hbw.size)⟩
        rw [← hw3]
        clear hw3 hb23 hb3 hb2 hsl hbox hbw
        go_wp2
        go_roundw
        case rel => exact ⟨2, by omega, by go_num, by rw [HA.out, ← hfb], by rw [HA.out]; exact HF.out.1, HF.out.2⟩
        case measure => simp [intOf]
      · rcases (by omega : ep % 2 = 0 ∨ ep % 2 = 1) with h2 | h2
        · have HA : Hid (acc M.S p n 2 = acc M.S p n 1) := (show _ = _ from by simp only [acc, loadF, slotQ, hR]; rw [if_neg (by omega)]; cases slotR M.S p n <;> simp [better])
          have hpar : (ep : Int) % 2 = 0 := by omega
          obtain ⟨fb, hfb⟩ : ∃ fb, fb = (acc M.S p n 1).isSome := ⟨_, rfl⟩
          rw [← hfb]
          have hsl := HS1.out wr ep st hbw hR
          go_upto_region 9 with (go_at_call 65; (with_reducible refine Calls.mono hsl ?_); rintro e w2 ⟨a2, c2, rfl, hby2, hnb2, hno2, hc2, hb2⟩)
          obtain ⟨w3, hw3⟩ : ∃ w3, w3 = w2.alloc (.cells #[.int .u64 (ep : Int), .slice a2 st.length c2] 113) := ⟨_, rfl⟩
          obtain ⟨t, ht⟩ : ∃ t, t = w2.heap.size := ⟨_, rfl⟩
          have hblk3 : w3.heap[t]? = some (.cells #[.int .u64 (ep : Int), .slice a2 st.length c2] 113 (0, 0)) := by rw [hw3, ht]; exact heap_alloc_new w2 _
          have hb23 : Below w2.heap.size w2 w3 := by rw [hw3]; exact (Below.refl _ _).alloc (Nat.le_refl _) _
          have hb3 : Below wr.heap.size wr w3 := hb2.trans (hb23.mono hb2.size)
          have hbx3 := hbox.below hb3
          obtain ⟨eo, ao, lo, co, hbo, heo⟩ := hbx3.cells
          have hld : (loadVar 113 ⟨t, 0, none⟩).run Try.prog w3 = .ok (.agg #[.int .u64 (ep : Int), .slice a2 st.length c2]) w3 := box_load hblk3
          have d0 := cell_blk hblk3 0
          have d1 := cell_blk hblk3 1
          have c0 := cell_blk hbo 0
          have c1 := cell_blk hbo 1
          have f0 := frozen_blk hbo 0
          have f1 := frozen_blk hbo 1
          simp only [List.getElem?_toArray] at c0 c1 d0 d1
          have HF : Hid (Box w3 w.heap.size nb (acc M.S p n 1) ∧ Below w.heap.size w w3 ∧ Bytes w3 a2 st ∧ ∀ ad, a2 = some ad → w.heap.size ≤ ad.block ∧ ad.block ≠ nb) := ⟨hbx3, hbw.trans (hb3.mono hbw.size), hby2.below hb23 (Nat.le_refl _), fun ad e => by have h1 := hnb2 ad e; have h2 := hbox.lt; have h3 := hbw.size; exact ⟨by omega, by omega⟩⟩
          have hpt : (Value.pointer (some ⟨w2.heap.size, 0, none⟩)) = .pointer (some ⟨t, 0, none⟩) := by rw [ht]
          rw [← hw3, hpt]
          clear hw3 ht hpt hblk3 hb23 hb3 hb2 hsl hbox hbw hby2 hnb2 hbx3 hbo heo
          go_wp2
          go_roundw
          case rel => exact ⟨2, by omega, by go_num, by rw [HA.out, ← hfb], by rw [HA.out]; exact HF.out.1, HF.out.2.1⟩
          case measure => simp [intOf]
        · have hpar : (ep : Int) % 2 = 1 := by omega
          have hQ : slotQ M.S (p + n) n 1 = some (ep, st) := by simp [slotQ, hR, h2]
          rcases hY : acc M.S p n 1 with _ | y
          · have HA : Hid (acc M.S p n 2 = some (ep, st)) := (show better (acc M.S p n 1) (slotQ M.S (p + n) n 1) = _ from by rw [hY, hQ]; rfl)
            rw [show (Option.isSome (none : Option (Nat × List UInt8))) = false from rfl]
            have hsl := HS1.out wr ep st hbw hR
            go_upto_region 9 with (go_at_call 65; (with_reducible refine Calls.mono hsl ?_); rintro e w2 ⟨a2, c2, rfl, hby2, hnb2, hno2, hc2, hb2⟩)
            obtain ⟨w3, hw3⟩ : ∃ w3, w3 = w2.alloc (.cells #[.int .u64 (ep : Int), .slice a2 st.length c2] 113) := ⟨_, rfl⟩
            obtain ⟨t, ht⟩ : ∃ t, t = w2.heap.size := ⟨_, rfl⟩
            have hblk3 : w3.heap[t]? = some (.cells #[.int .u64 (ep : Int), .slice a2 st.length c2] 113 (0, 0)) := by rw [hw3, ht]; exact heap_alloc_new w2 _
            have hb23 : Below w2.heap.size w2 w3 := by rw [hw3]; exact (Below.refl _ _).alloc (Nat.le_refl _) _
            have hb3 : Below wr.heap.size wr w3 := hb2.trans (hb23.mono hb2.size)
            have hbx3 := hbox.below hb3
            obtain ⟨eo, ao, lo, co, hbo, heo⟩ := hbx3.cells
            have hld : (loadVar 113 ⟨t, 0, none⟩).run Try.prog w3 = .ok (.agg #[.int .u64 (ep : Int), .slice a2 st.length c2]) w3 := box_load hblk3
            have d0 := cell_blk hblk3 0
            have d1 := cell_blk hblk3 1
            have c0 := cell_blk hbo 0
            have c1 := cell_blk hbo 1
            have f0 := frozen_blk hbo 0
            have f1 := frozen_blk hbo 1
            simp only [List.getElem?_toArray] at c0 c1 d0 d1
            have HF : Hid (Box w3 w.heap.size nb (acc M.S p n 1) ∧ Below w.heap.size w w3 ∧ Bytes w3 a2 st ∧ ∀ ad, a2 = some ad → w.heap.size ≤ ad.block ∧ ad.block ≠ nb) := ⟨hbx3, hbw.trans (hb3.mono hbw.size), hby2.below hb23 (Nat.le_refl _), fun ad e => by have h1 := hnb2 ad e; have h2 := hbox.lt; have h3 := hbw.size; exact ⟨by omega, by omega⟩⟩
            have hpt : (Value.pointer (some ⟨w2.heap.size, 0, none⟩)) = .pointer (some ⟨t, 0, none⟩) := by rw [ht]
            rw [← hw3, hpt]
            clear hw3 ht hpt hblk3 hb23 hb3 hb2 hsl hbox hbw hby2 hnb2 hbx3 hbo heo
            go_wp2
            go_roundw
            case rel => exact ⟨2, by omega, by go_num, by rw [HA.out]; rfl, by rw [HA.out]; exact box_take HF.out.1 ep st a2 c2 HF.out.2.2.1 HF.out.2.2.2, (HF.out.2.1.setCell HNB.out _).setCell HNB.out _⟩
            case measure => simp [intOf]
          · have HY : Hid (acc M.S p n 1 = some y) := hY
            rw [show (Option.isSome (some y)) = true from rfl]
            by_cases hlt : ep < y.1
            · have HA : Hid (acc M.S p n 2 = acc M.S p n 1) := (show better (acc M.S p n 1) (slotQ M.S (p + n) n 1) = _ from by rw [hY, hQ]; simp [better, hlt])
              have hlti : (ep : Int) < (y.1 : Int) := by omega
              clear hY hQ
              have hsl := HS1.out wr ep st hbw hR
              go_upto_region 9 with (go_at_call 65; (with_reducible refine Calls.mono hsl ?_); rintro e w2 ⟨a2, c2, rfl, hby2, hnb2, hno2, hc2, hb2⟩)
              obtain ⟨w3, hw3⟩ : ∃ w3, w3 = w2.alloc (.cells #[.int .u64 (ep : Int), .slice a2 st.length c2] 113) := ⟨_, rfl⟩
              obtain ⟨t, ht⟩ : ∃ t, t = w2.heap.size := ⟨_, rfl⟩
              have hblk3 : w3.heap[t]? = some (.cells #[.int .u64 (ep : Int), .slice a2 st.length c2] 113 (0, 0)) := by rw [hw3, ht]; exact heap_alloc_new w2 _
              have hb23 : Below w2.heap.size w2 w3 := by rw [hw3]; exact (Below.refl _ _).alloc (Nat.le_refl _) _
              have hb3 : Below wr.heap.size wr w3 := hb2.trans (hb23.mono hb2.size)
              have hbx3 := hbox.below hb3
              obtain ⟨eo, ao, lo, co, hbo, heo⟩ := hbx3.cells
              have hld : (loadVar 113 ⟨t, 0, none⟩).run Try.prog w3 = .ok (.agg #[.int .u64 (ep : Int), .slice a2 st.length c2]) w3 := box_load hblk3
              have d0 := cell_blk hblk3 0
              have d1 := cell_blk hblk3 1
              have c0 := cell_blk hbo 0
              have c1 := cell_blk hbo 1
              have f0 := frozen_blk hbo 0
              have f1 := frozen_blk hbo 1
              simp only [List.getElem?_toArray] at c0 c1 d0 d1
              have HF : Hid (Box w3 w.heap.size nb (acc M.S p n 1) ∧ Below w.heap.size w w3 ∧ Bytes w3 a2 st ∧ ∀ ad, a2 = some ad → w.heap.size ≤ ad.block ∧ ad.block ≠ nb) := ⟨hbx3, hbw.trans (hb3.mono hbw.size), hby2.below hb23 (Nat.le_refl _), fun ad e => by have h1 := hnb2 ad e; have h2 := hbox.lt; have h3 := hbw.size; exact ⟨by omega, by omega⟩⟩
              have hpt : (Value.pointer (some ⟨w2.heap.size, 0, none⟩)) = .pointer (some ⟨t, 0, none⟩) := by rw [ht]
              rw [← hw3, hpt]
              rw [HY.out] at heo
              rw [show boxEp (some y) = y.1 from rfl] at heo
              rw [heo] at c0
              clear hw3 ht hpt hblk3 hb23 hb3 hb2 hsl hbox hbw hby2 hnb2 hbx3 hbo heo
              go_wp2
              go_roundw
              case rel => exact ⟨2, by omega, by go_num, by rw [HA.out]; rw [HY.out]; rfl, by rw [HA.out]; exact HF.out.1, HF.out.2.1⟩
              case measure => simp [intOf]
            · have HA : Hid (acc M.S p n 2 = some (ep, st)) := (show better (acc M.S p n 1) (slotQ M.S (p + n) n 1) = _ from by rw [hY, hQ]; simp [better, hlt])
              have hlti : ¬ (ep : Int) < (y.1 : Int) := by omega
              clear hY hQ
              have hsl := HS1.out wr ep st hbw hR
              go_upto_region 9 with (go_at_call 65; (with_reducible refine Calls.mono hsl ?_); rintro e w2 ⟨a2, c2, rfl, hby2, hnb2, hno2, hc2, hb2⟩)
              obtain ⟨w3, hw3⟩ : ∃ w3, w3 = w2.alloc (.cells #[.int .u64 (ep : Int), .slice a2 st.length c2] 113) := ⟨_, rfl⟩
              obtain ⟨t, ht⟩ : ∃ t, t = w2.heap.size := ⟨_, rfl⟩
              have hblk3 : w3.heap[t]? = some (.cells #[.int .u64 (ep : Int), .slice a2 st.length c2] 113 (0, 0)) := by rw [hw3, ht]; exact heap_alloc_new w2 _
              have hb23 : Below w2.heap.size w2 w3 := by rw [hw3]; exact (Below.refl _ _).alloc (Nat.le_refl _) _
              have hb3 : Below wr.heap.size wr w3 := hb2.trans (hb23.mono hb2.size)
              have hbx3 := hbox.below hb3
              obtain ⟨eo, ao, lo, co, hbo, heo⟩ := hbx3.cells
              have hld : (loadVar 113 ⟨t, 0, none⟩).run Try.prog w3 = .ok (.agg #[.int .u64 (ep : Int), .slice a2 st.length c2]) w3 := box_load hblk3
              have d0 := cell_blk hblk3 0
              have d1 := cell_blk hblk3 1
              have c0 := cell_blk hbo 0
              have c1 := cell_blk hbo 1
              have f0 := frozen_blk hbo 0
              have f1 := frozen_blk hbo 1
              simp only [List.getElem?_toArray] at c0 c1 d0 d1
              have HF : Hid (Box w3 w.heap.size nb (acc M.S p n 1) ∧ Below w.heap.size w w3 ∧ Bytes w3 a2 st ∧ ∀ ad, a2 = some ad → w.heap.size ≤ ad.block ∧ ad.block ≠ nb) := ⟨hbx3, hbw.trans (hb3.mono hbw.size), hby2.below hb23 (Nat.le_refl _), fun ad e => by have h1 := hnb2 ad e; have h2 := hbox.lt; have h3 := hbw.size; exact ⟨by omega, by omega⟩⟩
              have hpt : (Value.pointer (some ⟨w2.heap.size, 0, none⟩)) = .pointer (some ⟨t, 0, none⟩) := by rw [ht]
              rw [← hw3, hpt]
              rw [HY.out] at heo
              rw [show boxEp (some y) = y.1 from rfl] at heo
              rw [heo] at c0
              clear hw3 ht hpt hblk3 hb23 hb3 hb2 hsl hbox hbw hby2 hnb2 hbx3 hbo heo
              go_wp2
              go_roundw
              case rel => exact ⟨2, by omega, by go_num, by rw [HA.out]; rfl, by rw [HA.out]; exact box_take HF.out.1 ep st a2 c2 HF.out.2.2.1 HF.out.2.2.2, (HF.out.2.1.setCell HNB.out _).setCell HNB.out _⟩
              case measure => simp [intOf]
    · obtain ⟨r, hr⟩ : ∃ r, r = loadF M.S p n := ⟨_, rfl⟩
      rw [show acc M.S p n 2 = r from by rw [hr]; rfl] at hbox ⊢
      cases r with
      | none =>
        have hblk : wr.heap[nb]? = some (.cells #[.int .u64 0, .slice none 0 0] 113 (0, 0)) := hbox
        rw [show (Option.isSome (none : Option (Nat × List UInt8))) = false from rfl]
        have HR : Hid (loadF M.S p n = none) := hr.symm
        clear hbox hblk hr
        go_wp2
        (try simp only [Exit.inBlock, Exit.then])
        refine bodyPost_ret (v := .tuple #[.slice none 0 0, .int .u64 0, .int .i64 61]) ?_ rfl ?_
        · simp [results, Try.f33]
        · rw [HR.out]
          exact ⟨rfl, hbw⟩
      | some x =>
        obtain ⟨a, c, hblk, hby, hbn⟩ := hbox
        rw [show (Option.isSome (some x)) = true from rfl]
        have c0 := cell_blk hblk 0
        have c1 := cell_blk hblk 1
        simp only [List.getElem?_toArray] at c0 c1
        have HF : Hid (Bytes wr a x.2 ∧ (∀ ad, a = some ad → w.heap.size ≤ ad.block) ∧ Below w.heap.size w wr) := ⟨hby, fun ad e => (hbn ad e).1, hbw⟩
        have HR : Hid (loadF M.S p n = some x) := hr.symm
        clear hblk hby hbn hr hbw
        go_wp2
        go_region
        all_goals
          (go_wp2
           (try simp only [Exit.inBlock, Exit.then])
           refine bodyPost_ret (v := .tuple #[.slice a x.2.length c, .int .u64 (x.1 : Int), .int .i64 0]) ?_ rfl ?_
           · simp [results, Try.f33]
           · rw [HR.out]
             exact ⟨⟨a, c, rfl, HF.out.1, HF.out.2.1⟩, HF.out.2.2.drew⟩)
end Go.Proofs.Ytecljiefljgfmaa
