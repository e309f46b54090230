/-
  States saved one behind the other on a device that may fail: the steps of the law.
-/
import Derived.Test.YtllmjlobhjcbkaaTurns
namespace Go.Proofs.Ytllmjlobhjcbkaa
open Go.RowKit

/-- The slots behind i states. -/
structure WM (S : List ByteArray) (i : Nat) (L : List (List UInt8)) : Prop where
  sz : ∀ x ∈ S, x.size = 256
  len : S.length = 40
  was : ∀ j, j + 1 = i → ∃ h : j < L.length, slotR S (3 + j % 2 * 10) 10 = some (j, L[j])
  old : ∀ S' e s, S'[3 + i % 2 * 10]? = S[3 + i % 2 * 10]? → slotR S' (3 + i % 2 * 10) 10 = some (e, s) → e + 2 ≤ i
  oth : i = 0 → S[13]? = some zsec
/-- What is loaded behind i states, or with one more. -/
def WE (S : List ByteArray) (i : Nat) (L : List (List UInt8)) : Prop :=
  (loadF S 3 10 = none ∧ i = 0) ∨ ∃ (k : Nat) (h : k < L.length), loadF S 3 10 = some (k, L[k]) ∧ (k = i ∨ k + 1 = i)

theorem WM.new (L : List (List UInt8)) : WM (D.new 40 blank).S 0 L := by
  refine ⟨(new_calm 40).sz, by simp [D.new], by intro j hj; omega, ?_, fun _ => new_get (by omega)⟩
  intro S' e s h hr
  rw [slot_zero (h.trans (new_get (by omega)))] at hr
  cases hr
theorem WM.keepOld {S S' : List ByteArray} {i : Nat} {L : List (List UInt8)} (h : WM S i L) (hs : ∀ j, j ≤ 3 + i % 2 * 10 ∨ 3 + i % 2 * 10 + 10 ≤ j → S'[j]? = S[j]?) : WE S' i L := by
  have hq : ∀ e s, slotR S' (3 + i % 2 * 10) 10 = some (e, s) → e + 2 ≤ i := fun e s hr => h.old S' e s (hs _ (.inl (Nat.le_refl _))) hr
  rcases Nat.eq_zero_or_pos i with h0 | h0
  · subst h0
    left
    refine ⟨load_none ?_ ?_, rfl⟩
    · rcases hr : slotR S' 3 10 with _ | ⟨e, s⟩
      · rfl
      · have := hq e s hr
        omega
    · exact slot_zero ((hs 13 (.inr (by omega))).trans (h.oth rfl))
  · obtain ⟨j, rfl⟩ : ∃ j, i = j + 1 := ⟨i - 1, by omega⟩
    obtain ⟨hj, hw⟩ := h.was j rfl
    right
    refine ⟨j, hj, load_newest ?_ ?_, .inr rfl⟩
    · rw [slot_same (S := S) (fun t ht => hs _ (by omega)) (by omega)]
      exact hw
    · intro e s hr
      have := hq e s hr
      omega
theorem WM.saved {S : List ByteArray} {i : Nat} {L : List (List UInt8)} (h : WM S i L) (hi : i < L.length) (hl : i < 18446744073709551616) (hf : fitsB 10 (L[i]).length = true) :
    WM (savedS S (3 + i % 2 * 10) i L[i]) (i + 1) L ∧ WE (savedS S (3 + i % 2 * 10) i L[i]) i L := by
  obtain ⟨q, hq⟩ : ∃ q, q = 3 + i % 2 * 10 := ⟨_, rfl⟩
  obtain ⟨p, hp⟩ : ∃ p, p = 3 + (i + 1) % 2 * 10 := ⟨_, rfl⟩
  have hlen := h.len
  have hq10 : q + 10 ≤ S.length := by omega
  have hstl : (L[i]).length < 18446744073709551616 := by
    have := hf
    simp only [fitsB, decide_eq_true_eq, Int.toNat_natCast] at this
    have := sect_le (L[i]).length
    omega
  have hown := savedS_slot (n := 10) hl hstl hf hq10
  have hoth : ∀ t, t < q ∨ q + 10 ≤ t → (savedS S q i L[i])[t]? = S[t]? := fun t ht => savedS_other (n := 10) hf hq10 ht
  have hsame : slotR (savedS S q i L[i]) p 10 = slotR S p 10 := slot_same (fun t ht => hoth _ (by omega)) (by omega)
  rw [← hq]
  have hold : ∀ S' e s, S'[p]? = (savedS S q i L[i])[p]? → slotR S' p 10 = some (e, s) → e + 2 ≤ i + 1 := by
    intro S' e s hs hr
    rw [hoth p (by omega)] at hs
    rcases Nat.eq_zero_or_pos i with h0 | h0
    · subst h0
      rw [slot_zero (hs.trans (by rw [show p = 13 from by omega]; exact h.oth rfl))] at hr
      cases hr
    · obtain ⟨j, rfl⟩ : ∃ j, i = j + 1 := ⟨i - 1, by omega⟩
      obtain ⟨hj, hw⟩ := h.was j rfl
      rw [show 3 + j % 2 * 10 = p from by omega] at hw
      have e1 := (slot_ep hs hr).1
      have e2 := (slot_ep (S' := S) (S := S) rfl hw).1
      omega
  refine ⟨⟨savedS_size h.sz, by rw [savedS_length, hlen], ?_, ?_, by omega⟩, ?_⟩
  · intro j hj
    obtain rfl : j = i := by omega
    exact ⟨hi, by rw [← hq]; exact hown⟩
  · intro S' e s hs hr
    rw [← hp] at hs hr
    exact hold S' e s hs hr
  · right
    refine ⟨i, hi, load_newest (by rw [← hq]; exact hown) ?_, .inl rfl⟩
    intro e s hr
    rw [← hp] at hr
    have := hold _ e s rfl hr
    omega

theorem fuse_same (M : D) (k : Int) : (M.fuse k).L = M.L ∧ (M.fuse k).S = M.S ∧ (M.fuse k).C = M.C := by
  unfold D.fuse
  split
  · exact ⟨rfl, rfl, rfl⟩
  · split <;> exact ⟨rfl, rfl, rfl⟩

theorem Bools.below {w w' : World} {a : Option Addr} {l : List Bool} (h : Bools w a l) {B : Nat} (hb : Below B w w') (hB : w.heap.size ≤ B) : Bools w' a l := by
  rcases h with rfl | ⟨b, off, rfl, hb', hc⟩
  · exact .inl rfl
  · refine .inr ⟨b, off, rfl, by have := hb.size; omega, fun j hj => ?_⟩
    exact (hb.cell (p := ⟨b, off + j, none⟩) (by show b < B; omega)).trans (hc j hj)
/-- What the law keeps between two states. -/
structure WI (w wr : World) (d i : Nat) (L : List (List UInt8)) : Prop where
  ex : ∃ M, DB w wr d M ∧ M.C = [] ∧ M.L = M.S ∧ WM M.S i L
/-- Behind the last state, ahead of the crash. -/
structure WX (w wr : World) (d i : Nat) (L : List (List UInt8)) : Prop where
  ex : ∃ M, DB w wr d M ∧ M.C.length ≤ 100000 ∧ ∀ keep, WE (M.crash keep).L i L ∧ (∀ x ∈ (M.crash keep).L, x.size = 256) ∧ (M.crash keep).L.length = 40
theorem WI.bel {w wr : World} {d i : Nat} {L : List (List UInt8)} (h : WI w wr d i L) : Below w.heap.size w wr := by
  obtain ⟨M, h1, _⟩ := h.ex
  exact h1.bel
theorem WX.bel {w wr : World} {d i : Nat} {L : List (List UInt8)} (h : WX w wr d i L) : Below w.heap.size w wr := by
  obtain ⟨M, h1, _⟩ := h.ex
  exact h1.bel
theorem WI.start {w wr : World} {d : Nat} (L : List (List UInt8)) (k : Int) (hk : k ≤ 9223372036854775807) (hD : Dev wr (fun k => w.heap.size ≤ k ∧ k < wr.heap.size) d (D.new 40 blank)) (hb : Below w.heap.size w wr) :
    Calls Try.prog 12 #[.pointer (some ⟨d, 0, none⟩), .int .i64 k] wr fun e w' => e = .returned (.tuple #[]) ∧ WI w w' d 0 L := by
  refine Calls.mono (fuse_any d k wr _ _ hD hk) ?_
  rintro e w1 ⟨rfl, hD1, hT1⟩
  obtain ⟨e1, e2, e3⟩ := fuse_same (D.new 40 blank) k
  refine ⟨rfl, ⟨_, (DB.grown ⟨hD, hb⟩ hD1.grow hT1), by rw [e3]; rfl, by rw [e1, e2]; rfl, by rw [e2]; exact WM.new L⟩⟩
theorem WI.done {w wr : World} {d i : Nat} {L : List (List UInt8)} (h : WI w wr d i L) : WX w wr d i L := by
  obtain ⟨M, h1, h2, h3, h4⟩ := h.ex
  refine ⟨M, h1, by rw [h2]; simp, fun keep => ?_⟩
  have e : (M.crash keep).L = M.S := by
    show app M.L (kept keep M.C) = _
    rw [h2, h3]; rfl
  rw [e]
  exact ⟨h4.keepOld fun j _ => rfl, h4.sz, h4.len⟩
/-- One Save: done, or the device has failed. -/
theorem WI.save {w wr : World} {d i : Nat} {L : List (List UInt8)} (h : WI w wr d i L) (hi : i < L.length) (hl : i < 18446744073709551616) (a : Option Addr) (cap : Nat) (hb : Bytes w a L[i]) (hlc : (L[i]).length ≤ cap) (hno : a = none → cap = 0) (hf : fitsB 10 (L[i]).length = true) :
    Calls Try.prog 23 #[.pointer (some ⟨d, 0, none⟩), .int .i64 3, .int .i64 10, .int .u64 (i : Int), .slice a (L[i]).length cap] wr fun e w' => (e = .returned (.int .i64 0) ∧ WI w w' d (i + 1) L) ∨ (e = .returned (.int .i64 50) ∧ WX w w' d i L) := by
  obtain ⟨M, h1, h2, h3, h4⟩ := h.ex
  obtain ⟨q, hq⟩ : ∃ q, q = 3 + i % 2 * 10 := ⟨_, rfl⟩
  have hlen := h4.len
  have hq10 : q + 10 ≤ M.S.length := by omega
  have hsv := save_ok d 3 10 i q a L[i] cap wr _ M h1.dev (by omega) (by rw [h3, hlen]; omega) hf hq hl (hb.below h1.bel (Nat.le_refl _)) (by
    intro hne ad e hk
    rcases hb with h0 | ⟨b, off, e', hb', _⟩
    · exact hne h0
    · rw [e'] at e
      simp only [Option.some.injEq] at e
      subst e
      have := hk.1
      simp at this
      omega) hlc hno (by rw [h2]; simp)
  obtain ⟨hm1, hm2⟩ := h4.saved hi hl hf
  rw [← hq] at hm1 hm2
  refine Calls.mono hsv ?_
  rintro e w1 ⟨rfl, hD1, hT1⟩
  have hDB := h1.grown hD1 hT1
  rcases saveF_gen (n := 10) (ep := i) h2 h3 h4.sz hf hq10 with ⟨s, k, he⟩ | ⟨he, hc, hk⟩
  · left
    rw [he] at hDB ⊢
    exact ⟨rfl, ⟨_, hDB, rfl, rfl, hm1⟩⟩
  · right
    refine ⟨by rw [he], ⟨_, hDB, by omega, fun keep => ?_⟩⟩
    rcases hk keep with e1 | ⟨e1, e2, e3⟩
    · rw [e1]
      exact ⟨hm2, hm1.sz, hm1.len⟩
    · exact ⟨h4.keepOld fun j hj => e1 j (by omega), e3, by rw [e2, hlen]⟩
/-- The crash, and what is loaded behind it. -/
theorem WX.crash {w wr : World} {d i : Nat} {L : List (List UInt8)} (h : WX w wr d i L) (a : Option Addr) (keep : List Bool) (cap : Nat) (hb : Bools w a keep) :
    Calls Try.prog 16 #[.pointer (some ⟨d, 0, none⟩), .slice a keep.length cap] wr fun e w' => e = .returned (.tuple #[]) ∧ Below w.heap.size w w' ∧
      Calls Try.prog 24 #[.pointer (some ⟨d, 0, none⟩), .int .i64 3, .int .i64 10] w' fun e w'' => Below w.heap.size w w'' ∧ ((e = .returned (.tuple #[.slice none 0 0, .int .u64 0, .int .i64 61]) ∧ i = 0) ∨
        ∃ (k : Nat) (hk : k < L.length) (a2 : Option Addr) (c2 : Nat), e = .returned (.tuple #[.slice a2 (L[k]).length c2, .int .u64 (k : Int), .int .i64 0]) ∧ Bytes w'' a2 L[k] ∧ (k = i ∨ k + 1 = i)) := by
  obtain ⟨M, h1, h2, h3⟩ := h.ex
  obtain ⟨h4, h5, h6⟩ := h3 keep
  have hcr := crash_any d a keep cap wr _ M h1.dev (Bools.below hb h1.bel (Nat.le_refl _)) (by
    intro hne ad e hk
    rcases hb with h0 | ⟨b, off, e', hb', _⟩
    · rw [h0] at hne; simp at hne
    · rw [e'] at e
      simp only [Option.some.injEq] at e
      subst e
      have := hk.1
      simp at this
      omega) h2
  refine Calls.mono hcr ?_
  rintro e w1 ⟨rfl, hD1, hT1⟩
  have hDB := h1.grown hD1 hT1
  refine ⟨rfl, hDB.bel, ?_⟩
  refine Calls.mono (load_any d 3 10 w1 _ _ hDB.dev (by simp [D.crash]) h5 (by omega) (by rw [h6]; omega)) ?_
  rintro e w2 ⟨hl2, hb2⟩
  have hb02 := hDB.bel.trans (hb2.mono hDB.bel.size)
  refine ⟨hb02, ?_⟩
  have eS : (M.crash keep).S = (M.crash keep).L := rfl
  rw [eS] at hl2
  rcases h4 with ⟨e1, e2⟩ | ⟨k, hk, e1, e2⟩
  · rw [e1] at hl2
    exact .inl ⟨hl2, e2⟩
  · rw [e1] at hl2
    obtain ⟨a2, c2, rfl, hby2, _⟩ := hl2
    exact .inr ⟨k, hk, a2, c2, rfl, hby2, e2⟩
end Go.Proofs.Ytllmjlobhjcbkaa
