/-
  States saved one behind the other, with epochs that rise: the steps of the law.
-/
import Derived.Test.YtllmjlobhjcbkaaAwakeS
import Derived.Test.YtllmjlobhjcbkaaOpenS
namespace Go.Proofs.Ytllmjlobhjcbkaa
open Go.RowKit

/-- A device all of whose blocks are new since w. -/
structure DB (w wr : World) (d : Nat) (M : D) : Prop where
  dev : Dev wr (fun k => w.heap.size ≤ k ∧ k < wr.heap.size) d M
  bel : Below w.heap.size w wr
theorem DB.grown {w wr w' : World} {d : Nat} {M M' : D} (h : DB w wr d M) (hD : Dev w' (Grow (fun k => w.heap.size ≤ k ∧ k < wr.heap.size) wr w') d M') (hT : Turn (fun k => w.heap.size ≤ k ∧ k < wr.heap.size) wr w') : DB w w' d M' := by
  have h1 := h.bel.size
  have h2 := hT.size
  refine ⟨hD.wider ?_ (fun k hk => hk.2), h.bel.trans (hT.below (fun k hk => hk.1) h.bel.size)⟩
  intro k hk
  rcases hk with hk | hk
  · exact ⟨hk.1, by omega⟩
  · exact ⟨by omega, hk.2⟩
theorem DB.step {w wr w' : World} {d : Nat} {M : D} (h : DB w wr d M) (hb : Below wr.heap.size wr w') : DB w w' d M := by
  have h1 := h.bel.size
  have h2 := hb.size
  exact ⟨(h.dev.below hb).wider (fun k hk => ⟨hk.1, by omega⟩) (fun k hk => hk.2), h.bel.trans (hb.mono h.bel.size)⟩
theorem DB.new {w w' : World} {d : Nat} {M : D} (hD : Dev w' (fun k => w.heap.size ≤ k ∧ k < w'.heap.size) d M) (hb : Below w.heap.size w w') : DB w w' d M := ⟨hD, hb⟩

/-- What the law keeps: a calm device whose slots hold older epochs alone. -/
structure TI (w wr : World) (d ep : Nat) : Prop where
  ex : ∃ M, DB w wr d M ∧ Calm M ∧ M.S.length = 24 ∧ (∀ e s, slotR M.S 2 8 = some (e, s) → e < ep) ∧ (∀ e s, slotR M.S 10 8 = some (e, s) → e < ep)
theorem TI.bel {w wr : World} {d ep : Nat} (h : TI w wr d ep) : Below w.heap.size w wr := by
  obtain ⟨M, h1, _⟩ := h.ex
  exact h1.bel
theorem TI.drew {w wr : World} {d ep : Nat} (h : TI w wr d ep) : TI w wr.drew d ep := by
  obtain ⟨M, h1, h2⟩ := h.ex
  exact ⟨M, h1.step ((Below.refl _ _).drew), h2⟩
theorem TI.new {w w' : World} {d ep : Nat} (hD : Dev w' (fun k => w.heap.size ≤ k ∧ k < w'.heap.size) d (D.new 24 blank)) (hb : Below w.heap.size w w') : TI w w' d ep := by
  refine ⟨D.new 24 blank, ⟨hD, hb⟩, new_calm 24, by simp [D.new], ?_, ?_⟩
  · intro e s h
    rw [slot_zero (new_get (by omega))] at h
    cases h
  · intro e s h
    rw [slot_zero (new_get (by omega))] at h
    cases h
theorem TI.full {w wr : World} {d ep : Nat} (h : TI w wr d ep) (a : Option Addr) (st : List UInt8) (cap : Nat) (hl : st.length ≤ 9223372036854775807) (hf : fitsB 8 st.length = false) :
    Calls Try.prog 23 #[.pointer (some ⟨d, 0, none⟩), .int .i64 2, .int .i64 8, .int .u64 (ep : Int), .slice a st.length cap] wr fun e w' => e = .returned (.int .i64 60) ∧ wr = w' := by
  obtain ⟨M, h1, h2, h3, _⟩ := h.ex
  exact save_full d 2 8 ep a st cap wr _ M h1.dev (by omega) (by rw [h2.l, h3]; omega) hl hf
theorem TI.fit {w wr : World} {d ep : Nat} (h : TI w wr d ep) (a : Option Addr) (st : List UInt8) (cap : Nat) (hep : ep < 18446744073709551616) (hb : Bytes w a st) (hlc : st.length ≤ cap) (hno : a = none → cap = 0) (hf : fitsB 8 st.length = true) :
    Calls Try.prog 23 #[.pointer (some ⟨d, 0, none⟩), .int .i64 2, .int .i64 8, .int .u64 (ep : Int), .slice a st.length cap] wr fun e w' => e = .returned (.int .i64 0) ∧ Below w.heap.size w w' ∧
      Calls Try.prog 24 #[.pointer (some ⟨d, 0, none⟩), .int .i64 2, .int .i64 8] w' fun e w'' => ∃ a c, e = .returned (.tuple #[.slice a st.length c, .int .u64 (ep : Int), .int .i64 0]) ∧ Bytes w'' a st ∧ TI w w'' d (ep + 1) := by
  obtain ⟨M, h1, h2, h3, h4, h5⟩ := h.ex
  have hstl : st.length < 18446744073709551616 := by
    have := hf
    simp only [fitsB, decide_eq_true_eq, Int.toNat_natCast] at this
    have := sect_le st.length
    omega
  obtain ⟨q, hq⟩ : ∃ q, q = 2 + ep % 2 * 8 := ⟨_, rfl⟩
  have hq8 : q + 8 ≤ M.S.length := by omega
  have hsv := save_ok d 2 8 ep q a st cap wr _ M h1.dev (by omega) (by rw [h2.l, h3]; omega) hf hq hep (hb.below h1.bel (Nat.le_refl _)) (by
    intro hne ad e hk
    rcases hb with h0 | ⟨b, off, e', hb', _⟩
    · exact hne h0
    · rw [e'] at e
      simp only [Option.some.injEq] at e
      subst e
      have := hk.1
      simp at this
      omega) hlc hno (by rw [h2.c]; simp)
  rw [saveF_live (n := 8) h2 hf hq8] at hsv
  refine Calls.mono hsv ?_
  rintro e w1 ⟨rfl, hD1, hT1⟩
  have hDB := h1.grown hD1 hT1
  refine ⟨rfl, hDB.bel, ?_⟩
  have hc2 := saveF_calm (q := q) (ep := ep) (st := st) h2
  have hS2 : (savedS M.S q ep st).length = 24 := by rw [savedS_length, h3]
  have hown := savedS_slot (n := 8) hep hstl hf hq8
  have hoth : ∀ p, (p + 8 ≤ q ∨ q + 8 ≤ p) → slotR (savedS M.S q ep st) p 8 = slotR M.S p 8 := fun p hp => slot_same (fun j hj => savedS_other (n := 8) hf hq8 (by omega)) (by omega)
  have hlo : ∀ e s, slotR (savedS M.S q ep st) 2 8 = some (e, s) → e < ep + 1 := by
    intro e s hr
    rcases (by omega : ep % 2 = 0 ∨ ep % 2 = 1) with h0 | h0
    · have : q = 2 := by omega
      rw [this] at hown hr
      rw [hown] at hr
      simp only [Option.some.injEq, Prod.mk.injEq] at hr
      omega
    · rw [hoth 2 (by omega)] at hr
      have := h4 e s hr
      omega
  have hhi : ∀ e s, slotR (savedS M.S q ep st) 10 8 = some (e, s) → e < ep + 1 := by
    intro e s hr
    rcases (by omega : ep % 2 = 0 ∨ ep % 2 = 1) with h0 | h0
    · rw [hoth 10 (by omega)] at hr
      have := h5 e s hr
      omega
    · have : q = 10 := by omega
      rw [this] at hown hr
      rw [hown] at hr
      simp only [Option.some.injEq, Prod.mk.injEq] at hr
      omega
  have hload : loadF (savedS M.S q ep st) 2 8 = some (ep, st) := by
    refine load_newest (by rw [← hq]; exact hown) ?_
    intro e s hr
    rw [hoth _ (by omega)] at hr
    rcases (by omega : (ep + 1) % 2 = 0 ∨ (ep + 1) % 2 = 1) with h0 | h0
    · rw [h0] at hr
      exact h4 e s hr
    · rw [h0] at hr
      exact h5 e s hr
  refine Calls.mono (load_any d 2 8 w1 _ _ hDB.dev (by rw [show ({ M with S := savedS M.S q ep st, L := savedS M.S q ep st } : D).st = M.st from rfl, h2.st]; decide) hc2.sz (by omega) (by show _ ≤ (savedS M.S q ep st).length; omega)) ?_
  rintro e w2 ⟨hl2, hb2⟩
  rw [show loadF ({ M with S := savedS M.S q ep st, L := savedS M.S q ep st } : D).S 2 8 = some (ep, st) from hload] at hl2
  obtain ⟨a2, c2, rfl, hby2, _⟩ := hl2
  exact ⟨a2, c2, rfl, hby2, ⟨_, hDB.step hb2, hc2, hS2, hlo, hhi⟩⟩
end Go.Proofs.Ytllmjlobhjcbkaa
