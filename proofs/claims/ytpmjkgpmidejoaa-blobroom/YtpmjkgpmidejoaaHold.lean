/-
  A device and a Blobs of the law's own, beside blocks that they do not touch.
-/
import Derived.Test.YtpmjkgpmidejoaaBlobT
namespace Go.Proofs.Ytpmjkgpmidejoaa
open Go.RowKit
open Al (Spc Kep)

/-- A device of the law's own. -/
structure DL (w : World) (K : Nat → Prop) (d : Nat) (M : D) (wr : World) : Prop where
  dev : ∃ F, Dev wr F d M ∧ ∀ k, F k → w.heap.size ≤ k ∧ ¬ K k
  hk : ∀ k, K k → k < wr.heap.size
  old : Below w.heap.size w wr
/-- A Blobs of the law's own. -/
structure BL (w : World) (K : Nat → Prop) (b d s fr : Nat) (M : D) (L : List Bool) (wr : World) : Prop where
  st : ∃ F, St wr b d s fr F M L ∧ ∀ k, F k → w.heap.size ≤ k ∧ ¬ K k
  hb : w.heap.size ≤ b ∧ ¬ K b
  hs : w.heap.size ≤ s ∧ ¬ K s
  hk : ∀ k, K k → k < wr.heap.size
  old : Below w.heap.size w wr
/-- What is new is kept clear of, too. -/
def More (K : Nat → Prop) (w w' : World) : Nat → Prop := fun k => K k ∨ (w.heap.size ≤ k ∧ k < w'.heap.size)
/-- Blocks that lie as they lay. -/
def Same (K : Nat → Prop) (w w' : World) : Prop := ∀ k, K k → w'.heap[k]? = w.heap[k]?
theorem Same.trans {K : Nat → Prop} {a b c : World} (h : Same K a b) (h2 : Same K b c) : Same K a c := fun k hk => (h2 k hk).trans (h k hk)
theorem Same.mono {K K' : Nat → Prop} {a b : World} (h : Same K a b) (hk : ∀ k, K' k → K k) : Same K' a b := fun k h2 => h k (hk k h2)

theorem BL.more {w : World} {K : Nat → Prop} {b d s fr : Nat} {M : D} {L : List Bool} {wr w' : World} (h : BL w K b d s fr M L wr) (hb : Below wr.heap.size wr w') : BL w (More K wr w') b d s fr M L w' := by
  obtain ⟨F, h1, h2⟩ := h.st
  have hz := hb.size
  exact ⟨⟨F, h1.below hb, fun k hk => ⟨(h2 k hk).1, fun h3 => h3.elim (h2 k hk).2 (fun h4 => by have := h1.dev.2.1 k hk; omega)⟩⟩,
    ⟨h.hb.1, fun h3 => h3.elim h.hb.2 (fun h4 => by have := h1.blb.lt; omega)⟩, ⟨h.hs.1, fun h3 => h3.elim h.hs.2 (fun h4 => by have := h1.sp.lt; omega)⟩,
    fun k hk => hk.elim (fun h3 => by have := h.hk k h3; omega) (fun h3 => h3.2), h.old.trans (hb.mono h.old.size)⟩
theorem BL.less {w : World} {K K' : Nat → Prop} {b d s fr : Nat} {M : D} {L : List Bool} {wr : World} (h : BL w K b d s fr M L wr) (hk : ∀ k, K' k → K k) : BL w K' b d s fr M L wr := by
  obtain ⟨F, h1, h2⟩ := h.st
  exact ⟨⟨F, h1, fun k h3 => ⟨(h2 k h3).1, fun h4 => (h2 k h3).2 (hk k h4)⟩⟩, ⟨h.hb.1, fun h3 => h.hb.2 (hk b h3)⟩, ⟨h.hs.1, fun h3 => h.hs.2 (hk s h3)⟩, fun k h3 => h.hk k (hk k h3), h.old⟩
/-- A step that turns blocks of K, or of those that are new, alone. -/
theorem BL.other {w : World} {K : Nat → Prop} {b d s fr : Nat} {M : D} {L : List Bool} {wr w' : World} (h : BL w K b d s fr M L wr) (ht : Turn K wr w') (hK : ∀ k, K k → w.heap.size ≤ k) : BL w K b d s fr M L w' := by
  obtain ⟨F, h1, h2⟩ := h.st
  have hz := ht.size
  exact ⟨⟨F, ⟨h1.blb.kept (ht.block b h1.blb.lt h.hb.2), h1.dev.other ht (fun k hk => (h2 k hk).2), h1.sp.kept (ht.block s h1.sp.lt h.hs.2), h1.nb, h1.ns, h1.bs⟩, h2⟩, h.hb, h.hs, fun k hk => by have := h.hk k hk; omega, h.old.trans (ht.below hK h.old.size)⟩
theorem BL.below {w : World} {K : Nat → Prop} {b d s fr : Nat} {M : D} {L : List Bool} {wr w' : World} (h : BL w K b d s fr M L wr) (hb : Below wr.heap.size wr w') : BL w K b d s fr M L w' := (h.more hb).less fun _ => Or.inl
theorem DL.more {w : World} {K : Nat → Prop} {d : Nat} {M : D} {wr w' : World} (h : DL w K d M wr) (hb : Below wr.heap.size wr w') : DL w (More K wr w') d M w' := by
  obtain ⟨F, h1, h2⟩ := h.dev
  have hz := hb.size
  exact ⟨⟨F, h1.below hb, fun k hk => ⟨(h2 k hk).1, fun h3 => h3.elim (h2 k hk).2 (fun h4 => by have := h1.2.1 k hk; omega)⟩⟩, fun k hk => hk.elim (fun h3 => by have := h.hk k h3; omega) (fun h3 => h3.2), h.old.trans (hb.mono h.old.size)⟩
theorem DL.less {w : World} {K K' : Nat → Prop} {d : Nat} {M : D} {wr : World} (h : DL w K d M wr) (hk : ∀ k, K' k → K k) : DL w K' d M wr := by
  obtain ⟨F, h1, h2⟩ := h.dev
  exact ⟨⟨F, h1, fun k h3 => ⟨(h2 k h3).1, fun h4 => (h2 k h3).2 (hk k h4)⟩⟩, fun k h3 => h.hk k (hk k h3), h.old⟩

theorem dl_new (w wr : World) (K : Nat → Prop) (hK : ∀ k, K k → k < wr.heap.size) (ho : Below w.heap.size w wr) (n : Nat) (h1 : 1 ≤ n) (hn : n ≤ 4096) :
    Calls Try.prog 9 #[.int .i64 (n : Int)] wr fun e w' => ∃ d, e = .returned (.tuple #[.pointer (some ⟨d, 0, none⟩), .int .i64 0]) ∧ DL w K d (D.new n blank) w' ∧ Below wr.heap.size wr w' := by
  refine (new_ok n wr h1 hn).mono ?_
  rintro e w' ⟨d, rfl, hd, hb⟩
  refine ⟨d, rfl, ⟨⟨_, hd, fun k hk => ⟨Nat.le_trans ho.size hk.1, fun h2 => by have := hK k h2; omega⟩⟩, fun k hk => by have := hK k hk; have := hb.size; omega, ho.trans (hb.mono ho.size)⟩, hb⟩

theorem bl_open (w wr : World) (K : Nat → Prop) (d fr n : Nat) (M : D) (h : DL w K d M wr) (hn : fr + n ≤ M.L.length) (a : Option Addr) (rs : List (Int × Int)) (cap : Nat) (hr : Refs wr a rs) (hrl : rs.length ≤ 1000000) (L : List Bool) (hL : markAll (List.replicate n false) rs = some L) :
    Calls Try.prog 11 #[.pointer (some ⟨d, 0, none⟩), .int .i64 (fr : Int), .int .i64 (n : Int), .slice a rs.length cap] wr fun e w' => ∃ b s, e = .returned (.tuple #[.pointer (some ⟨b, 0, none⟩), .int .i64 0]) ∧ BL w K b d s fr M L w' ∧ Below wr.heap.size wr w' := by
  obtain ⟨F, h1, h2⟩ := h.dev
  refine (bopen_ok wr d fr n F M h1 hn a rs cap hr hrl).mono ?_
  rintro e w' ⟨hb, ⟨L', b, s, e1, rfl, q1, q2, q3, q4, q5⟩ | ⟨e1, _⟩⟩
  · rw [hL] at e1
    obtain rfl := Option.some.inj e1
    have hz := h.old.size
    refine ⟨b, s, rfl, ⟨⟨F, ⟨q1, h1.below hb, q2, fun hF => by have := h1.2.1 b hF; omega, fun hF => by have := h1.2.1 s hF; omega, q5⟩, h2⟩, ⟨by omega, fun hk => by have := h.hk b hk; omega⟩, ⟨by omega, fun hk => by have := h.hk s hk; omega⟩, fun k hk => by have := h.hk k hk; have := hb.size; omega, h.old.trans (hb.mono h.old.size)⟩, hb⟩
  · rw [hL] at e1
    cases e1

theorem bl_write (w wr : World) (K : Nat → Prop) (b d s fr : Nat) (M : D) (L : List Bool) (h : BL w K b d s fr M L wr) (a : Option Addr) (l : List UInt8) (cap : Nat) (hb : Bytes wr a l) (hab : l ≠ [] → ∀ ad, a = some ad → ad.block < w.heap.size ∨ K ad.block) (hcap : l.length ≤ cap) (hlm : l.length ≤ 9223372036854775807) (hC : M.C.length ≤ 80000) (hfr : fr ≤ 4096) :
    Calls Try.prog 13 #[.pointer (some ⟨b, 0, none⟩), .slice a l.length cap] wr fun e w' => e = .returned (.tuple #[rv (wrF M L fr l).1 (wrF M L fr l).2.1, .int .i64 (wrF M L fr l).2.2.1]) ∧ BL w K b d s fr (wrF M L fr l).2.2.2.1 (wrF M L fr l).2.2.2.2 w' ∧ Same K wr w' := by
  obtain ⟨F, h1, h2⟩ := h.st
  refine (bwrite_any wr b d s fr F M L h1 a l cap hb (fun hne ad e => ⟨fun hF => ?_, fun e2 => ?_⟩) hcap hlm hC hfr).mono ?_
  · rcases hab hne ad e with h3 | h3
    · have := (h2 _ hF).1; omega
    · exact (h2 _ hF).2 h3
  · rcases hab hne ad e with h3 | h3
    · have := h.hs.1; omega
    · exact h.hs.2 (e2 ▸ h3)
  · rintro e w' ⟨rfl, q1, q2⟩
    have hz := h.old.size
    refine ⟨rfl, ⟨⟨_, q1, fun k hk => hk.elim (h2 k) (fun h3 => ⟨by omega, fun h4 => by have := h.hk k h4; omega⟩)⟩, h.hb, h.hs, fun k hk => by have := h.hk k hk; have := q2.size; omega, h.old.trans (q2.below (fun k hk => hk.elim (fun h3 => (h2 k h3).1) (fun e => by rw [e]; exact h.hs.1)) hz)⟩, fun k hk => q2.block k (h.hk k hk) (fun h3 => h3.elim (fun h4 => (h2 k h4).2 hk) (fun e => h.hs.2 (e ▸ hk)))⟩

theorem bl_read (w wr : World) (K : Nat → Prop) (b d s fr : Nat) (M : D) (L : List Bool) (h : BL w K b d s fr M L wr) (S Z off n : Nat) (hg : giveR L (S : Int) (Z : Int) = true) (hle : off + n ≤ Z) (hS : ∀ x ∈ M.S, x.size = 256) (hin : fr + L.length ≤ M.S.length) :
    Calls Try.prog 15 #[.pointer (some ⟨b, 0, none⟩), rv (S : Int) (Z : Int), .int .i64 (off : Int), .int .i64 (n : Int)] wr fun e w' => ∃ a c, e = .returned (.tuple #[.slice a (rdGo M (fr + S) off n (nsec Z) 0 []).2.length c, .int .i64 (rdGo M (fr + S) off n (nsec Z) 0 []).1]) ∧ Bytes w' a (rdGo M (fr + S) off n (nsec Z) 0 []).2 ∧ (a = none → c = 0) ∧ (∀ ad, a = some ad → wr.heap.size ≤ ad.block) ∧ BL w K b d s fr M L w' ∧ Below wr.heap.size wr w' := by
  obtain ⟨F, h1, h2⟩ := h.st
  refine (bread_ok wr b d s fr F M L h1 S Z off n hg hle hS hin).mono ?_
  rintro e w' ⟨v, rfl, q1, q2⟩
  obtain ⟨a, c, rfl, q3, q4, q5, q6⟩ := q1.open
  refine ⟨a, c, rfl, q3, q4, ?_, h.below q2, q2⟩
  intro ad e
  subst e
  obtain ⟨_, ⟨h3, _⟩ | ⟨g, cap', cur, h3, h4, _⟩⟩ := q1
  · simp at h3
  · simp only [Value.slice.injEq, Option.some.injEq] at h3
    rw [h3.1]
    exact h4

theorem bl_drop (w wr : World) (K : Nat → Prop) (b d s fr : Nat) (M : D) (L : List Bool) (h : BL w K b d s fr M L wr) (st sz : Int) (h1 : st ≤ 9223372036854775807) (h2 : sz ≤ 9223372036854775807) :
    Calls Try.prog 17 #[.pointer (some ⟨b, 0, none⟩), rv st sz] wr fun e w' => e = .returned (.int .i64 (if giveR L st sz then 0 else 1)) ∧ BL w K b d s fr M (giveL L st sz) w' ∧ Same K wr w' := by
  obtain ⟨F, h3, h4⟩ := h.st
  refine (drop_any wr b d s fr L st sz h3.blb h3.sp h1 h2).mono ?_
  rintro e w' ⟨rfl, q1, q2⟩
  have ht : Turn (fun k => k = s) wr w' := Kep.turn q2 fun k _ hn => hn
  refine ⟨rfl, ⟨⟨F, ⟨h3.blb.kept (q2.keep b h3.blb.lt h3.bs), h3.dev.other ht (fun k hk e => h3.ns (e ▸ hk)), q1, h3.nb, h3.ns, h3.bs⟩, h4⟩, h.hb, h.hs, fun k hk => by have := h.hk k hk; have := q2.size; omega, h.old.trans (ht.below (fun k e => by rw [e]; exact h.hs.1) h.old.size)⟩, fun k hk => q2.keep k (h.hk k hk) (fun e => h.hs.2 (e ▸ hk))⟩

theorem bl_free (w wr : World) (K : Nat → Prop) (b d s fr : Nat) (M : D) (L : List Bool) (h : BL w K b d s fr M L wr) :
    Calls Try.prog 25 #[.pointer (some ⟨b, 0, none⟩)] wr fun e w' => e = .returned (.int .i64 ((L.count false : Nat) : Int)) ∧ BL w K b d s fr M L w' ∧ Below wr.heap.size wr w' := by
  obtain ⟨F, h3, h4⟩ := h.st
  exact (bfree_any wr b d s fr L h3.blb h3.sp).mono fun e w' q => ⟨q.1, h.below q.2, q.2⟩
end Go.Proofs.Ytpmjkgpmidejoaa
