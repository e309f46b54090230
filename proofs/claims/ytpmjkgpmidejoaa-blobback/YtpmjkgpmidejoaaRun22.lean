/-
  A device and a Blobs of the law's own, beside blocks that they do not touch.
-/
import Derived.Test.YtpmjkgpmidejoaaRun21
namespace Go.Proofs.Ytpmjkgpmidejoaa
open Go.RowKit
open Al (Spc Kep)

/-- A device of the law's own. -/
structure DL (w : World) (K : Nat → Prop) (d : Nat) (M : D) (wr : World) : Prop where
  dev : ∃ F, Dev wr F d M ∧ ∀ k, F k → w.heap.size ≤ k ∧ ¬ K k
  hk : ∀ k, K k → k < wr.heap.size
  old : Below w.heap.size w wr
/-- A Blobs of the law's own. -/
structure BL (w : World) (K : Nat → Prop) (b d s fr : Nat) (M : D) (L : List Bool) (wr : World) : Prop where
  st : ∃ F, St wr b d s fr F M L ∧ ∀ k, F k → w.heap.size ≤ k ∧ ¬ K k
  hb : w.heap.size ≤ b ∧ ¬ K b
  hs : w.heap.size ≤ s ∧ ¬ K s
  hk : ∀ k, K k → k < wr.heap.size
  old : Below w.heap.size w wr
/-- What is new is kept clear of, too. -/
def More (K : Nat → Prop) (w w' : World) : Nat → Prop := fun k => K k ∨ (w.heap.size ≤ k ∧ k < w'.heap.size)
/-- Blocks that lie as they lay. -/
def Same (K : Nat → Prop) (w w' : World) : Prop := ∀ k, K k → w'.heap[k]? = w.heap[k]?
theorem Same.trans {K : Nat → Prop} {a b c : World} (h : Same K a b) (h2 : Same K b c) : Same K a c := fun k hk => (h2 k hk).trans (h k hk)
theorem Same.mono {K K' : Nat → Prop} {a b : World} (h : Same K a b) (hk : ∀ k, K' k → K k) : Same K' a b := fun k h2 => h k (hk k h2)

theorem BL.more {w : World} {K : Nat → Prop} {b d s fr : Nat} {M : D} {L : List Bool} {wr w' : World} (h : BL w K b d s fr M L wr) (hb : Below wr.heap.size wr w') : BL w (More K wr w') b d s fr M L w' := by
  obtain ⟨F, h1, h2⟩ := h.st
  have hz := hb.size
  exact ⟨⟨F, h1.below hb, fun k hk => ⟨(h2 k hk).1, fun h3 => h3.elim (h2 k hk).2 (fun h4 => by have := h1.dev.2.1 k hk; omega)⟩⟩,
    ⟨h.hb.1, fun h3 => h3.elim h.hb.2 (fun h4 => by have := h1.blb.lt; omega)⟩, ⟨h.hs.1, fun h3 => h3.elim h.hs.2 (fun h4 => by have := h1.sp.lt; omega)⟩,
    fun k hk => hk.elim (fun h3 => by have := h.hk k h3; omega) (fun h3 => h3.2), h.old.trans (hb.mono h.old.size)⟩
theorem BL.less {w : World} {K K' : Nat → Prop} {b d s fr : Nat} {M : D} {L : List Bool} {wr : World} (h : BL w K b d s fr M L wr) (hk : ∀ k, K' k → K k) : BL w K' b d s fr M L wr := by
  obtain ⟨F, h1, h2⟩ := h.st
  exact ⟨⟨F, h1, fun k h3 => ⟨(h2 k h3).1, fun h4 => (h2 k h3).2 (hk k h4)⟩⟩, ⟨h.hb.1, fun h3 => h.hb.2 (hk b h3)⟩, ⟨h.hs.1, fun h3 => h.hs.2 (hk s h3)⟩, fun k h3 => h.hk k (hk k h3), h.old⟩
/-- A step that turns blocks of K, or of those that are new, alone. -/
theorem BL.other {w : World} {K : Nat → Prop} {b d s fr : Nat} {M : D} {L : List Bool} {wr w' : World} (h : BL w K b d s fr M L wr) (ht : Turn K wr w') (hK : ∀ k, K k → w.heap.size ≤ k) : BL w K b d s fr M L w' := by
  obtain ⟨F, h1, h2⟩ := h.st
  have hz := ht.size
  exact ⟨⟨F, ⟨h1.blb.kept (ht.block b h1.blb.lt h.hb.2), h1.dev.other ht (fun k hk => (h2 k hk).2), h1.sp.kept (ht.block s h1.sp.lt h.hs.2), h1.nb, h1.ns, h1.bs⟩, h2⟩, h.hb, h.hs, fun k hk => by have := h.hk k hk; omega, h.old.trans (ht.below hK h.old.size)⟩
theorem BL.below {w : World} {K : Nat → Prop} {b d s fr : Nat} {M : D} {L : List Bool} {wr w' : World} (h : BL w K b d s fr M L wr) (hb : Below wr.heap.size wr w') : BL w K b d s fr M L w' := (h.more hb).less fun _ => Or.inl
theorem DL.more {w : World} {K : Nat → Prop} {d : Nat} {M : D} {wr w' : World} (h : DL w K d M wr) (hb : Below wr.heap.size wr w') : DL w (More K wr w') d M w' := by
  obtain ⟨F, h1, h2⟩ := h.dev
  have hz := hb.size
  exact ⟨⟨F, h1.below hb, fun k hk => ⟨(h2 k hk).1, fun h3 => h3.elim (h2 k hk).2 (fun h4 => by have := h1.2.1 k hk; omega)⟩⟩, fun k hk => hk.elim (fun h3 => by have := h.hk k h3; omega) (fun h3 => h3.2), h.old.trans (hb.mono h.old.size)⟩
theorem DL.less {w : World} {K K' : Nat → Prop} {d : Nat} {M : D} {wr : World} (h : DL w K d M wr) (hk : ∀ k, K' k → K k) : DL w K' d M wr := by
  obtain ⟨F, h1, h2⟩ := h.dev
  exact ⟨⟨F, h1, fun k h3 => ⟨(h2 k h3).1, fun h4 => (h2 k h3).2 (hk k h4)⟩⟩, fun k h3 => h.hk k (hk k h3), h.old⟩

theorem dl_new (w wr : World) (K : Nat → Prop) (hK : ∀ k, K k → k < wr.heap.size) (ho : Below w.heap.size w wr) (n : Nat) (h1 : 1 ≤ n) (hn : n ≤ 4096) :
    Calls Try.prog 9 #[.int .i64 (n : Int)] wr fun e w' => ∃ d, e = .returned (.tuple #[.pointer (some ⟨d, 0, none⟩), .int .i64 0]) ∧ DL w K d (D.new n blank) w' ∧ Below wr.heap.size wr w' := by
  refine (new_ok n wr h1 hn).mono ?_
  rintro e w' ⟨d, rfl, hd, hb⟩
  refine ⟨d, rfl, ⟨⟨_, hd, fun k hk => ⟨Nat.le_trans ho.size hk.1, fun h2 => by have := hK k h2; omega⟩⟩, fun k hk => by have := hK k hk; have := hb.size; omega, ho.trans (hb.mono ho.size)⟩, hb⟩

theorem bl_open (w wr : World) (K : Nat → Prop) (d fr n : Nat) (M : D) (h : DL w K d M wr) (hn : fr + n ≤ M.L.length) (a : Option Addr) (rs : List (Int × Int)) (cap : Nat) (hr : Refs wr a rs) (hrl : rs.length ≤ 1000000) (L : List Bool) (hL : markAll (List.replicate n false) rs = some L) :
    Calls Try.prog 11 #[.pointer (some ⟨d, 0, none⟩), .int .i64 (fr : Int), .int .i64 (n : Int), .slice a rs.length cap] wr fun e w' => ∃ b s, e = .returned (.tuple #[.pointer (some ⟨b, 0, none⟩), .int .i64 0]) ∧ BL w K b d s fr M L w' ∧ Below wr.heap.size wr w' := by
  obtain ⟨F, h1, h2⟩ := h.dev
  refine (bopen_ok wr d fr n F M h1 hn a rs cap hr hrl).mono ?_
  rintro e w' ⟨hb, ⟨L', b, s, e1, rfl, q1, q2, q3, q4, q5⟩ | ⟨e1, _⟩⟩
  · rw [hL] at e1
    obtain rfl := Option.some.inj e1
    have hz := h.old.size
    refine ⟨b, s, rfl, ⟨⟨F, ⟨q1, h1.below hb, q2, fun hF => by have := h1.2.1 b hF; omega, fun hF => by have := h1.2.1 s hF; omega, q5⟩, h2⟩, ⟨by omega, fun hk => by have := h.hk b hk; omega⟩, ⟨by omega, fun hk => by have := h.hk s hk; omega⟩, fun k hk => by have := h.hk k hk; have := hb.size; omega, h.old.trans (hb.mono h.old.size)⟩, hb⟩
  · rw [hL] at e1
    cases e1

theorem bl_write (w wr : World) (K : Nat → Prop) (b d s fr : Nat) (M : D) (L : List Bool) (h : BL w K b d s fr M L wr) (a : Option Addr) (l : List UInt8) (cap : Nat) (hb : Bytes wr a l) (hab : l ≠ [] → ∀ ad, a = some ad → ad.block < w.heap.size ∨ K ad.block) (hcap : l.length ≤ cap) (hlm : l.length ≤ 9223372036854775807) (hC : M.C.length ≤ 80000) (hfr : fr ≤ 4096) :
    Calls Try.prog 13 #[.pointer (some ⟨b, 0, none⟩), .slice a l.length cap] wr fun e w' => e = .returned (.tuple #[rv (wrF M L fr l).1 (wrF M L fr l).2.1, .int .i64 (wrF M L fr l).2.2.1]) ∧ BL w K b d s fr (wrF M L fr l).2.2.2.1 (wrF M L fr l).2.2.2.2 w' ∧ Same K wr w' := by
  obtain ⟨F, h1, h2⟩ := h.st
  refine (bwrite_any wr b d s fr F M L h1 a l cap hb (fun hne ad e => ⟨fun hF => ?_, fun e2 => ?_⟩) hcap hlm hC hfr).mono ?_
  · rcases hab hne ad e with h3 | h3
    · have := (h2 _ hF).1; omega
    · exact (h2 _ hF).2 h3
  · rcases hab hne ad e with h3 | h3
    · have := h.hs.1; omega
    · exact h.hs.2 (e2 ▸ h3)
  · rintro e w' ⟨rfl, q1, q2⟩
    have hz := h.old.size
    refine ⟨rfl, ⟨⟨_, q1, fun k hk => hk.elim (h2 k) (fun h3 => ⟨by omega, fun h4 => by have := h.hk k h4; omega⟩)⟩, h.hb, h.hs, fun k hk => by have := h.hk k hk; have := q2.size; omega, h.old.trans (q2.below (fun k hk => hk.elim (fun h3 => (h2 k h3).1) (fun e => by rw [e]; exact h.hs.1)) hz)⟩, fun k hk => q2.block k (h.hk k hk) (fun h3 => h3.elim (fun h4 => (h2 k h4).2 hk) (fun e => h.hs.2 (e ▸ hk)))⟩

theorem bl_read (w wr : World) (K : Nat → Prop) (b d s fr : Nat) (M : D) (L : List Bool) (h : BL w K b d s fr M L wr) (S Z off n : Nat) (hg : giveR L (S : Int) (Z : Int) = true) (hle : off + n ≤ Z) (hS : ∀ x ∈ M.S, x.size = 256) (hin : fr + L.length ≤ M.S.length) :
    Calls Try.prog 15 #[.pointer (some ⟨b, 0, none⟩), rv (S : Int) (Z : Int), .int .i64 (off : Int), .int .i64 (n : Int)] wr fun e w' => ∃ a c, e = .returned (.tuple #[.slice a (rdGo M (fr + S) off n (nsec Z) 0 []).2.length c, .int .i64 (rdGo M (fr + S) off n (nsec Z) 0 []).1]) ∧ Bytes w' a (rdGo M (fr + S) off n (nsec Z) 0 []).2 ∧ (a = none → c = 0) ∧ (∀ ad, a = some ad → wr.heap.size ≤ ad.block) ∧ BL w K b d s fr M L w' ∧ Below wr.heap.size wr w' := by
  obtain ⟨F, h1, h2⟩ := h.st
  refine (bread_ok wr b d s fr F M L h1 S Z off n hg hle hS hin).mono ?_
  rintro e w' ⟨v, rfl, q1, q2⟩
  obtain ⟨a, c, rfl, q3, q4, q5, q6⟩ := q1.open
  refine ⟨a, c, rfl, q3, q4, ?_, h.below q2, q2⟩
  intro ad e
  subst e
  obtain ⟨_, ⟨h3, _⟩ | ⟨g, cap', cur, h3, h4, _⟩⟩ := q1
  · simp at h3
  · simp only [Value.slice.injEq, Option.some.injEq] at h3
    rw [h3.1]
    exact h4

theorem bl_drop (w wr : World) (K : Nat → Prop) (b d s fr : Nat) (M : D) (L : List Bool) (h : BL w K b d s fr M L wr) (st sz : Int) (h1 : st ≤ 9223372036854775807) (h2 : sz ≤ 9223372036854775807) :
    Calls Try.prog 17 #[.pointer (some ⟨b, 0, none⟩), rv st sz] wr fun e w' => e = .returned (.int .i64 (if giveR L st sz then 0 else 1)) ∧ BL w K b d s fr M (giveL L st sz) w' ∧ Same K wr w' := by
  obtain ⟨F, h3, h4⟩ := h.st
  refine (drop_any wr b d s fr L st sz h3.blb h3.sp h1 h2).mono ?_
  rintro e w' ⟨rfl, q1, q2⟩
  have ht : Turn (fun k => k = s) wr w' := Kep.turn q2 fun k _ hn => hn
  refine ⟨rfl, ⟨⟨F, ⟨h3.blb.kept (q2.keep b h3.blb.lt h3.bs), h3.dev.other ht (fun k hk e => h3.ns (e ▸ hk)), q1, h3.nb, h3.ns, h3.bs⟩, h4⟩, h.hb, h.hs, fun k hk => by have := h.hk k hk; have := q2.size; omega, h.old.trans (ht.below (fun k e => by rw [e]; exact h.hs.1) h.old.size)⟩, fun k hk => q2.keep k (h.hk k hk) (fun e => h.hs.2 (e ▸ hk))⟩

theorem bl_free (w wr : World) (K : Nat → Prop) (b d s fr : Nat) (M : D) (L : List Bool) (h : BL w K b d s fr M L wr) :
    Calls Try.prog 25 #[.pointer (some ⟨b, 0, none⟩)] wr fun e w' => e = .returned (.int .i64 ((L.count false : Nat) : Int)) ∧ BL w K b d s fr M L w' ∧ Below wr.heap.size wr w' := by
  obtain ⟨F, h3, h4⟩ := h.st
  exact (bfree_any wr b d s fr L h3.blb h3.sp).mono fun e w' q => ⟨q.1, h.below q.2, q.2⟩
end Go.Proofs.Ytpmjkgpmidejoaa
/-
  The law's awake.
-/
namespace Go.Proofs.Ytpmjkgpmidejoaa
open Go.RowKit

def K0 : Nat → Prop := fun _ => False
theorem refs_nil (w : World) : Refs w none [] := ⟨fun r hr => by simp at hr, .inl rfl⟩

set_option maxHeartbeats 4000000 in
set_option maxRecDepth 100000 in
theorem awake_any (w : World) : Calls Try.prog 8 #[] w fun e w' => e = .returned (.bool true) ∧ Below w.heap.size w w' := by
  obtain ⟨i0, hi, hz0, hz1, hz2⟩ := info_parts info5
  have hm : i0.bytes * 300 ≤ 281474976710656 := by rw [hz2]; omega
  have hnew := dl_new w w K0 (fun k hk => hk.elim) (Below.refl _ _) 16 (by omega) (by omega)
  obtain ⟨M0, hM0⟩ : ∃ M0, M0 = D.new 16 blank := ⟨_, rfl⟩
  have HC : Hid (Calm M0 ∧ M0.S.length = 16 ∧ M0.L.length = 16) := ⟨by rw [hM0]; exact new_calm 16, by rw [hM0]; simp [D.new], by rw [hM0]; simp [D.new]⟩
  rw [← hM0] at hnew
  have HO : Hid (∀ w1 d, DL w K0 d M0 w1 → Calls Try.prog 11 #[.pointer (some ⟨d, 0, none⟩), .int .i64 4, .int .i64 8, .slice none 0 0] w1 fun e w' => ∃ b s, e = .returned (.tuple #[.pointer (some ⟨b, 0, none⟩), .int .i64 0]) ∧ Hid (BL w K0 b d s 4 M0 (pre 0 8) w')) := (by
    intro w1 d hd
    refine (bl_open w w1 K0 d 4 8 M0 hd (by rw [HC.out.2.2]; omega) none [] 0 (refs_nil _) (by simp) (pre 0 8) (by rw [← pre_new]; rfl)).mono ?_
    rintro e w' ⟨b, s, rfl, q1, _⟩
    exact ⟨b, s, rfl, q1⟩)
  have HWR : Hid (∀ w2 w3 b d s, BL w K0 b d s 4 M0 (pre 0 8) w2 → w3.ownsRow w2.heap.size 5 1 (.slice (some ⟨w2.heap.size, 0, none⟩) 300 300) 300 (bcs (List.replicate 300 0)) → w2.grownBy w3 none → Calls Try.prog 13 #[.pointer (some ⟨b, 0, none⟩), .slice (some ⟨w2.heap.size, 0, none⟩) 300 300] w3 fun e w' => e = .returned (.tuple #[rv 0 300, .int .i64 0]) ∧ Hid (BL w K0 b d s 4 (putD M0 4 (List.replicate 300 0)) (pre 2 6) w')) := (by
    intro w2 w3 b d s hb ho hg
    have hb3 : Below w2.heap.size w2 w3 := (Below.refl _ _).grown hg (Nat.le_refl _) (by simp)
    have hlt := (owns_lt ho w2.heap.size rfl).2
    have h1 := hb.more hb3
    have hw := bl_write w w3 (More K0 w2 w3) b d s 4 M0 (pre 0 8) h1 (some ⟨w2.heap.size, 0, none⟩) (List.replicate 300 0) 300 (own_bytes ho) (fun _ ad e => by simp only [Option.some.injEq] at e; subst e; exact .inr (.inr ⟨Nat.le_refl _, hlt⟩)) (by simp) (by simp) (by rw [HC.out.1.c]; simp) (by omega)
    have e := wr_pre (u := 0) (v := 8) (fr := 4) (List.replicate 300 0) HC.out.1 (by rw [HC.out.2.1]; omega)
    rw [List.length_replicate, if_neg (by omega), show nsec 300 = 2 from by decide, if_pos (by omega)] at e
    rw [e, List.length_replicate] at hw
    refine hw.mono ?_
    rintro e2 w' ⟨rfl, q1, _⟩
    exact ⟨rfl, q1.less fun k h => h.elim⟩)
  have HRD : Hid (∀ w3 w4 b d s, BL w K0 b d s 4 (putD M0 4 (List.replicate 300 0)) (pre 2 6) w3 → Below w3.heap.size w3 w4 → Calls Try.prog 15 #[.pointer (some ⟨b, 0, none⟩), rv 0 300, .int .i64 250, .int .i64 10] w4 fun e w' => ∃ a c, e = .returned (.tuple #[.slice a 10 c, .int .i64 0]) ∧ Hid (BL w K0 b d s 4 (putD M0 4 (List.replicate 300 0)) (pre 2 6) w') ∧ Below w4.heap.size w4 w') := (by
    intro w3 w4 b d s hb hb4
    have hl : Lies (putD M0 4 (List.replicate 300 0)).S 4 (List.replicate 300 0) := putD_lies (by rw [HC.out.2.1, List.length_replicate]; decide)
    have hc := putD_calm HC.out.1 4 (List.replicate 300 0)
    have hr := bl_read w w4 K0 b d s 4 (putD M0 4 (List.replicate 300 0)) (pre 2 6) (hb.below hb4) 0 300 250 10 (pre_giveR (by decide) (by omega)) (by omega) hc.sz (by rw [pre_length, putD_length, HC.out.2.1]; omega)
    have e := read_lies hl (by rw [hc.st]; omega) 250 10 (by rw [List.length_replicate]; omega)
    rw [List.length_replicate] at e
    rw [Nat.add_zero, e] at hr
    refine hr.mono ?_
    rintro e2 w' ⟨a, c, rfl, _, _, _, q1, q2⟩
    refine ⟨a, c, ?_, q1, q2⟩
    rw [show ((List.drop 250 (List.replicate 300 (0 : UInt8))).take 10).length = 10 from by rw [List.length_take, List.length_drop, List.length_replicate]; rfl])
  have HFR : Hid (∀ w5 b d s, BL w K0 b d s 4 (putD M0 4 (List.replicate 300 0)) (pre 2 6) w5 → Calls Try.prog 25 #[.pointer (some ⟨b, 0, none⟩)] w5 fun e w' => e = .returned (.int .i64 6) ∧ Below w.heap.size w w') := (by
    intro w5 b d s hb
    have := bl_free w w5 K0 b d s 4 _ _ hb
    rw [pre_count] at this
    exact this.mono fun e w' q => ⟨q.1, q.2.1.old⟩)
  have hsec := fun w => sectors_any 252 w (by omega)
  rw [show secI 252 = 1 from by decide] at hsec
  clear hM0
  go_enter Try.func8, Try.ntmps8
  go_wp2_with (first
    | (go_at_call 9; refine Calls.mono hnew ?_; rintro e w1 ⟨d, rfl, q1, q2⟩; have ho := HO.out w1 d q1; clear q1 q2)
    | (go_at_call 11; refine Calls.mono ho ?_; rintro e w2 ⟨b, s, rfl, HB⟩)
    | (at_make; refine wpList_make_full _ rfl _ _ 38 rfl w2.heap.size 5 i0 (.int .u8 0) 1 Try.underlying38 hi hz0 hz1 _ _ _ _ 300 rfl rfl (by first | rfl | omega) (by first | rfl | omega) hm (by unfold maxLen; omega) (Nat.le_refl _) ?_; intro w3 ho3 hg3; rw [made_bytes] at ho3; have hwr := HWR.out w2 w3 b d s HB.out ho3 hg3; clear ho3 hg3)
    | (go_at_call 13; refine Calls.mono hwr ?_; rintro e w4 ⟨rfl, HB2⟩; have hrd := HRD.out w4 (w4.alloc (.cells #[.int .i64 0, .int .i64 300] 40)) b d s HB2.out ((Below.refl _ w4).alloc (Nat.le_refl _) _))
    | (go_at_call 15; refine Calls.mono hrd ?_; rintro e w5 ⟨a5, c5, rfl, HB3, q5⟩; have k0 : w5.cell? ⟨w4.heap.size, 0, none⟩ = some (.int .i64 0) := (q5.cell (p := ⟨w4.heap.size, 0, none⟩) (by simp)).trans (cell_blk (heap_alloc_new w4 _) 0); have k1 : w5.cell? ⟨w4.heap.size, 1, none⟩ = some (.int .i64 300) := (q5.cell (p := ⟨w4.heap.size, 1, none⟩) (by simp)).trans (cell_blk (heap_alloc_new w4 _) 1); have hfr := HFR.out w5 b d s HB3.out; clear q5)
    | (go_at_call 25; refine Calls.mono hfr ?_; rintro e w6 ⟨rfl, q6⟩)
    | (go_at_call 28; refine Calls.mono (hsec _) ?_; rintro e w7 ⟨rfl, rfl⟩))
  go_ret
  exact ⟨rfl, q6⟩
end Go.Proofs.Ytpmjkgpmidejoaa
