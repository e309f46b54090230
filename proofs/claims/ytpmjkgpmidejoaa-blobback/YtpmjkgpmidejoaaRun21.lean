/-
  New by its contracts.
-/
import Derived.Test.YtpmjkgpmidejoaaRun08
import Derived.Test.YtpmjkgpmidejoaaRun03
import Derived.Test.YtpmjkgpmidejoaaRun20
namespace Go.Proofs.Ytpmjkgpmidejoaa
open Go.RowKit

/-- A sector of noughts. -/
def blank : ByteArray := ⟨(List.replicate 256 0).toArray⟩
theorem rep_one (x : UInt8) : ∀ n, Lib.repeatL [x] n = List.replicate n x
  | 0 => rfl
  | n + 1 => by rw [Lib.repeatL, rep_one x n, List.replicate_succ]; rfl
theorem blank_rep : (⟨(Lib.repeatL ([0] : List UInt8) 256).toArray⟩ : ByteArray) = blank := by
  rw [rep_one, blank]

theorem new_bad (n : Int) (w : World) (h : n < 1 ∨ 4096 < n) :
    Calls Try.prog 9 #[.int .i64 n] w fun e w' => e = .returned (.tuple #[.pointer none, .int .i64 1]) ∧ w = w' := by
  rcases (by omega : n < 1 ∨ (¬ n < 1 ∧ 4096 < n)) with h | ⟨h0, h⟩
  · go_enter Try.func9, Try.ntmps9
    go_wp2
    go_ret2
    exact ⟨rfl, rfl⟩
  · go_enter Try.func9, Try.ntmps9
    go_wp2
    go_ret2
    exact ⟨rfl, rfl⟩

theorem new_mem {w3 w4 : World} {d : Nat} {lv sv : Value} {n : Nat} {b : ByteArray} (hl : w3.ownsRow 0 9 1 lv n (scs (List.replicate n b))) (hs : w3.ownsRow 0 9 1 sv n (scs (List.replicate n b))) (hls : ∀ g, lv.ownBlock = some g → sv.ownBlock ≠ some g)
    (h4 : w4 = w3.alloc (.cells #[lv, sv, .slice none 0 0, .int .i64 0, .int .i64 0] 82)) (hd : d = w3.heap.size) : DevV w4 d lv sv (.slice none 0 0) (D.new n b) := by
  subst h4 hd
  have k1 : ∀ g, lv.ownBlock = some g → g < w3.heap.size := fun g hg => (World.ownsRow.lt hl g hg).2
  have k2 : ∀ g, sv.ownBlock = some g → g < w3.heap.size := fun g hg => (World.ownsRow.lt hs g hg).2
  have e : (D.new n b).L.length = n := by simp [D.new]
  have e2 : (D.new n b).S.length = n := by simp [D.new]
  refine ⟨heap_alloc_new w3 _, by rw [e]; exact hl.alloc _, by rw [e2]; exact hs.alloc _, World.ownsRow_nil _ 0 109 2, ?_, ?_, ?_⟩
  · intro g hg
    exact ⟨by have := k1 g hg; omega, hls g hg, by simp [Value.ownBlock]⟩
  · intro g hg
    exact ⟨by have := k2 g hg; omega, by simp [Value.ownBlock]⟩
  · intro g hg
    simp [Value.ownBlock] at hg

set_option maxHeartbeats 2000000 in
theorem new_ok (n : Nat) (w : World) (h1 : 1 ≤ n) (hn : n ≤ 4096) :
    Calls Try.prog 9 #[.int .i64 (n : Int)] w fun e w' => ∃ d, e = .returned (.tuple #[.pointer (some ⟨d, 0, none⟩), .int .i64 0]) ∧ Dev w' (fun k => w.heap.size ≤ k ∧ k < w'.heap.size) d (D.new n blank) ∧ Below w.heap.size w w' := by
  have hrep := strings_Repeat_main ⟨#[0]⟩ 256 w (by omega) (by omega) (by decide) (by decide)
  rw [blank_rep] at hrep
  have hni : (n : Int) ≤ 4096 := by omega
  have hni1 : (1 : Int) ≤ (n : Int) := by omega
  go_enter Try.func9, Try.ntmps9
  go_wp2_with fail
  refine Calls.mono hrep ?_
  rintro e w1 ⟨rfl, hb1⟩
  clear hrep
  go_wp2_with fail
  refine Calls.mono (repeat_any w1.heap.size n blank (w1.alloc (.cells #[.string blank] 9)) (cell_blk (heap_alloc_new w1 _) 0) h1 hn) ?_
  rintro e w2 ⟨v2, rfl, ho2, hb2⟩
  obtain ⟨g2, c2, rfl, _, hg2, hlt2⟩ := owns_head ho2 h1
  have HB2 := (show Hid (Below (w1.alloc (.cells #[.string blank] 9)).heap.size (w1.alloc (.cells #[.string blank] 9)) w2) from hb2)
  have HO2 := (show Hid (w2.ownsRow (w1.alloc (.cells #[.string blank] 9)).heap.size 9 1 (.slice (some ⟨g2, 0, none⟩) n c2) n (scs (List.replicate n blank))) from ho2)
  have HB1 := (show Hid (Below w.heap.size w w1) from hb1)
  have HCL := (show Hid _ from cloneS_any g2 n c2 (List.replicate n blank) w2 (owns_base (base' := 0) ho2 fun _ _ => Nat.zero_le _) hn)
  clear hb2 ho2 hb1
  go_wp2_with fail
  refine Calls.mono HCL.out ?_
  rintro e w3 ⟨v3, rfl, ho3, hb3⟩
  obtain ⟨g3, c3, rfl, _, hg3, hlt3⟩ := owns_head ho3 h1
  have HB3 := (show Hid (Below w2.heap.size w2 w3) from hb3)
  have HO3 := (show Hid (w3.ownsRow w2.heap.size 9 1 (.slice (some ⟨g3, 0, none⟩) n c3) n (scs (List.replicate n blank))) from ho3)
  clear hb3 ho3 HCL
  go_wp2
  go_ret2
  have z1 := HB1.out.size
  have z2 := HB2.out.size
  have z3 := HB3.out.size
  simp at z2 hg2
  have hl3 : w3.ownsRow 0 9 1 (.slice (some ⟨g2, 0, none⟩) n c2) n (scs (List.replicate n blank)) := owns_other (owns_base (base' := 0) HO2.out fun _ _ => Nat.zero_le _) fun j hj => HB3.out.block j (by have hj' : g2 = j := (by simpa [Value.ownBlock] using hj); rw [← hj']; exact hlt2)
  refine ⟨_, rfl, ⟨D.Ok.new h1 hn blank, ?_, _, _, _, new_mem hl3 (owns_base (base' := 0) HO3.out fun _ _ => Nat.zero_le _) (fun g hg e => ?_) rfl rfl, ?_⟩, ?_⟩
  · exact fun k hk => hk.2
  · obtain rfl : g2 = g := by simpa [Value.ownBlock] using hg
    obtain rfl : g3 = g2 := by simpa [Value.ownBlock] using e
    omega
  · intro k hk
    simp only [Foot, Value.ownBlock, Option.some.injEq] at hk
    simp
    rcases hk with hk | hk | hk | hk
    · omega
    · omega
    · omega
    · simp at hk
  · exact (((HB1.out.alloc z1 _).trans (HB2.out.mono (by simp; omega))).trans (HB3.out.mono (by omega))).alloc (by omega) _
end Go.Proofs.Ytpmjkgpmidejoaa
/-
  Plain mathematics of blob: what was written is read, in whatever pieces; the units that Take finds where the taken ones lie ahead of the free ones.
-/
namespace Go.Proofs.Ytpmjkgpmidejoaa
open Go.RowKit
open Al (takeF putB allB turnB winP)

theorem bodyL_id {l : List UInt8} (h : l.length = 252) : bodyL l = l := by rw [bodyL, h]; simp
theorem seal_drop {l : List UInt8} : (sealL l).drop 4 = bodyL l := by rw [sealL, List.drop_left' (be_length _ 4)]
theorem seal_whole {l : List UInt8} (h : l.length ≤ 252) : sealL l = sealL ((sealL l).drop 4) := by
  rw [seal_drop]
  unfold sealL
  rw [bodyL_id (bodyL_length h)]
theorem unitB_size (l : List UInt8) (j : Nat) : (unitB l j).size = 256 := by
  have := sealL_length (l := pcL l j) (by rw [pcL_length]; omega)
  simpa [unitB, ByteArray.size] using this
theorem units_size (l : List UInt8) : ∀ x ∈ unitsL l, x.size = 256 := by
  intro x hx
  obtain ⟨j, _, rfl⟩ := List.mem_map.1 hx
  exact unitB_size l j
theorem units_length (l : List UInt8) : (unitsL l).length = nsec l.length := by simp [unitsL]
theorem units_get {l : List UInt8} {j : Nat} (h : j < nsec l.length) : (unitsL l)[j]? = some (unitB l j) := by simp [unitsL, h]

/-- The data lies on the units from base on. -/
def Lies (S : List ByteArray) (base : Nat) (l : List UInt8) : Prop := ∀ j, j < nsec l.length → S[base + j]? = some (unitB l j)
theorem Lies.unit {M : D} {base : Nat} {l : List UInt8} (h : Lies M.S base l) (hs : M.st ≠ 2) {j : Nat} (hj : j < nsec l.length) : unE M (base + j) = 0 ∧ unL M (base + j) = bodyL (pcL l j) := by
  have hx : M.S.getD (base + j) default = unitB l j := by rw [List.getD, h j hj]; rfl
  have hd : (unitB l j).data.toList = sealL (pcL l j) := by simp [unitB]
  rw [unE, unL, if_neg hs, hx, hd, if_pos (seal_whole (by rw [pcL_length]; omega)), seal_drop]
  exact ⟨rfl, rfl⟩

theorem part_split (l : List UInt8) (off n i : Nat) (hT : off + n ≤ l.length) (hi : 252 * i < l.length) (hq : ¬ min (off + n - 252 * i) 252 ≤ off - 252 * i) :
    (l.take (off + n)).drop (max off (252 * i)) = ((bodyL (pcL l i)).drop (off - 252 * i)).take (min (off + n - 252 * i) 252 - (off - 252 * i)) ++ (l.take (off + n)).drop (max off (252 * (i + 1))) := by
  obtain ⟨T, hTe⟩ : ∃ T, T = off + n := ⟨_, rfl⟩
  rw [← hTe] at hT hq ⊢
  obtain ⟨p, hp⟩ : ∃ p, p = off - 252 * i := ⟨_, rfl⟩
  obtain ⟨q, hqe⟩ : ∃ q, q = min (T - 252 * i) 252 := ⟨_, rfl⟩
  rw [← hp, ← hqe] at hq ⊢
  have hbl : (bodyL (pcL l i)).length = 252 := bodyL_length (by rw [pcL_length]; omega)
  have hpl := pcL_length l i
  apply List.ext_getElem?
  intro k
  rw [List.getElem?_append, List.length_take, List.length_drop, hbl, List.getElem?_drop, List.getElem?_take]
  by_cases h1 : k < min (q - p) (252 - p)
  · rw [if_pos h1, List.getElem?_take, if_pos (by omega), if_pos (by omega), List.getElem?_drop, bodyL, List.getElem?_append_left (by omega), pcL, List.getElem?_take, if_pos (by omega), List.getElem?_drop]
    congr 1
    omega
  · rw [if_neg h1, List.getElem?_drop, List.getElem?_take]
    by_cases h2 : max off (252 * i) + k < T
    · rw [if_pos h2, if_pos (by omega)]
      congr 1
      omega
    · rw [if_neg h2, if_neg (by omega)]
theorem part_skip (l : List UInt8) (off n i : Nat) (hT : off + n ≤ l.length) (hq : min (off + n - 252 * i) 252 ≤ off - 252 * i) : (l.take (off + n)).drop (max off (252 * i)) = (l.take (off + n)).drop (max off (252 * (i + 1))) := by
  by_cases h1 : 252 * (i + 1) ≤ off
  · rw [Nat.max_eq_left (by omega), Nat.max_eq_left (by omega)]
  · rw [List.drop_of_length_le (by rw [List.length_take]; omega), List.drop_of_length_le (by rw [List.length_take]; omega)]

theorem rdGo_lies {M : D} {base : Nat} {l : List UInt8} (h : Lies M.S base l) (hs : M.st ≠ 2) (off n : Nat) (hT : off + n ≤ l.length) : ∀ (f i : Nat) (acc : List UInt8), i + f = nsec l.length → rdGo M base off n f i acc = (0, acc ++ (l.take (off + n)).drop (max off (252 * i)))
  | 0, i, acc, hf => by
    rw [rdGo, List.drop_of_length_le (by rw [List.length_take]; unfold nsec at hf; omega), List.append_nil]
  | f + 1, i, acc, hf => by
    have hi : 252 * i < l.length := by unfold nsec at hf; omega
    by_cases hq : min (off + n - 252 * i) 252 ≤ off - 252 * i
    · rw [rdGo_long _ _ _ _ _ _ _ hq, rdGo_lies h hs off n hT f (i + 1) acc (by omega), part_skip l off n i hT hq]
    · obtain ⟨e1, e2⟩ := h.unit hs (j := i) (by omega)
      rw [rdGo_good _ _ _ _ _ _ _ hq e1, rdGo_lies h hs off n hT f (i + 1) _ (by omega), e2, part_split l off n i hT hi hq, List.append_assoc]
/-- What was written is read. -/
theorem read_lies {M : D} {base : Nat} {l : List UInt8} (h : Lies M.S base l) (hs : M.st ≠ 2) (off n : Nat) (hT : off + n ≤ l.length) : rdGo M base off n (nsec l.length) 0 [] = (0, (l.drop off).take n) := by
  rw [rdGo_lies h hs off n hT _ 0 [] (by omega), List.nil_append, Nat.mul_zero, Nat.max_eq_left (Nat.zero_le _), List.drop_take]
  congr 2
  omega
/-- The first unit that is not whole. -/
theorem read_fails {M : D} {base n i0 : Nat} {E : Int} (hE : E ≠ 0) (h0 : unE M (base + i0) = E) (h1 : ∀ i, i < i0 → unE M (base + i) = 0) : ∀ (f i : Nat) (acc : List UInt8), i ≤ i0 → i0 < i + f → 252 * i0 < n → rdGo M base 0 n f i acc = (E, [])
  | 0, i, acc, h2, h3, _ => by omega
  | f + 1, i, acc, h2, h3, h4 => by
    have hq : ¬ min (0 + n - 252 * i) 252 ≤ 0 - 252 * i := by omega
    by_cases e : i = i0
    · subst e
      rw [rdGo_bad _ _ _ _ _ _ _ hq (by rw [h0]; exact hE), h0]
    · rw [rdGo_good _ _ _ _ _ _ _ hq (h1 i (by omega)), read_fails hE h0 h1 f (i + 1) _ (by omega) (by omega) h4]

/-- Taken units ahead of free ones. -/
def pre (u v : Nat) : List Bool := List.replicate u true ++ List.replicate v false
theorem pre_length (u v : Nat) : (pre u v).length = u + v := by simp [pre]
theorem pre_get (u v i : Nat) : (pre u v)[i]? = if i < u then some true else if i < u + v then some false else none := by
  rw [pre, List.getElem?_append, List.length_replicate, List.getElem?_replicate, List.getElem?_replicate]
  by_cases h1 : i < u
  · rw [if_pos h1, if_pos h1, if_pos h1]
  · rw [if_neg h1, if_neg h1]
    by_cases h2 : i < u + v
    · rw [if_pos h2, if_pos (by omega)]
    · rw [if_neg h2, if_neg (by omega)]
theorem pre_count (u v : Nat) : (pre u v).count false = v := by simp [pre, List.count_replicate]
theorem pre_win {u v K a : Nat} (hK : 1 ≤ K) : winP (pre u v) K a ↔ u ≤ a ∧ a + K ≤ u + v := by
  unfold winP allB
  rw [pre_length]
  constructor
  · rintro ⟨h1, h2⟩
    have := h2 0 (by omega)
    rw [pre_get, Nat.add_zero] at this
    refine ⟨?_, h1⟩
    apply Classical.byContradiction
    intro h3
    rw [if_pos (by omega)] at this
    cases this
  · rintro ⟨h1, h2⟩
    refine ⟨h2, fun i hi => ?_⟩
    rw [pre_get, if_neg (by omega), if_pos (by omega)]
theorem pre_put {u v K : Nat} (h : K ≤ v) : putB (pre u v) u K true = pre (u + K) (v - K) := by
  apply List.ext_getElem?
  intro i
  rw [Al.putB_get _ (by rw [pre_length]; omega), pre_get, pre_get]
  by_cases h1 : i < u
  · rw [if_neg (by omega), if_pos h1, if_pos (by omega)]
  · by_cases h2 : i < u + K
    · rw [if_pos (by omega), if_pos h2]
    · rw [if_neg (by omega), if_neg h1, if_neg h2]
      by_cases h3 : i < u + v
      · rw [if_pos h3, if_pos (by omega)]
      · rw [if_neg h3, if_neg (by omega)]
theorem pre_take {u v K : Nat} (hK : 1 ≤ K) : takeF (pre u v) (K : Int) = if K ≤ v then ((u : Int), 0, pre (u + K) (v - K)) else ((takeF (pre u v) (K : Int)).1, 60, pre u v) := by
  rcases take_cases (pre u v) K hK with ⟨t1, t2, t3⟩ | ⟨X, t1, t2, t3⟩
  · have hn : ¬ K ≤ v := fun h => t3 u ((pre_win hK).2 ⟨Nat.le_refl _, by omega⟩)
    rw [if_neg hn]
    exact Prod.ext rfl (Prod.ext t1 t2)
  · obtain ⟨h1, h2⟩ := (pre_win hK).1 t2
    have h3 : K ≤ v := by omega
    have h4 : ¬ u < X := fun h => t3 u h ((pre_win hK).2 ⟨Nat.le_refl _, by omega⟩)
    obtain rfl : X = u := by omega
    rw [if_pos h3, t1, pre_put h3]

/-- A Write on a device that is calm, into a space whose taken units lie ahead. -/
theorem wr_pre {M : D} {u v fr : Nat} (l : List UInt8) (hM : Calm M) (hin : fr + (u + v) ≤ M.S.length) :
    wrF M (pre u v) fr l = if l.length = 0 then (0, 0, 0, M, pre u v) else if nsec l.length ≤ v then ((u : Int), (l.length : Int), 0, { M with S := puts M.S (fr + u) (unitsL l), L := puts M.S (fr + u) (unitsL l), C := [] }, pre (u + nsec l.length) (v - nsec l.length)) else (0, 0, 60, M, pre u v) := by
  rw [wrF]
  by_cases h0 : l.length = 0
  · rw [if_pos h0, if_pos h0]
  · rw [if_neg h0, if_neg h0]
    have hp := pre_take (u := u) (v := v) (nsec_pos h0)
    by_cases h1 : nsec l.length ≤ v
    · rw [if_pos h1] at hp
      rw [hp, if_neg (by simp), if_pos h1]
      simp only [Int.toNat_natCast]
      rw [wrsF_live hM.st (by rw [units_length]; omega) (units_size l), if_neg (by simp), hM.c, List.nil_append, app_cws, hM.l]
    · rw [if_neg h1] at hp
      rw [hp]
      simp only []
      rw [if_pos (by simp), if_neg h1]
/-- The device behind it. -/
def putD (M : D) (p : Nat) (l : List UInt8) : D := { M with S := puts M.S p (unitsL l), L := puts M.S p (unitsL l), C := [] }
theorem putD_calm {M : D} (hM : Calm M) (p : Nat) (l : List UInt8) : Calm (putD M p l) := ⟨hM.st, rfl, rfl, puts_size _ _ _ hM.sz (units_size l)⟩
theorem putD_length (M : D) (p : Nat) (l : List UInt8) : (putD M p l).S.length = M.S.length := by simp [putD, puts_length]
theorem putD_lies {M : D} {p : Nat} {l : List UInt8} (h : p + nsec l.length ≤ M.S.length) : Lies (putD M p l).S p l := by
  intro j hj
  show (puts M.S p (unitsL l))[p + j]? = _
  rw [puts_get _ _ _ _ (by rw [units_length]; exact h), if_pos (by rw [units_length]; omega), show p + j - p = j from by omega, units_get hj]
theorem putD_other {M : D} {p : Nat} {l : List UInt8} (h : p + nsec l.length ≤ M.S.length) {base : Nat} {m : List UInt8} (hm : Lies M.S base m) (hb : base + nsec m.length ≤ p) : Lies (putD M p l).S base m := by
  intro j hj
  show (puts M.S p (unitsL l))[base + j]? = _
  rw [puts_get _ _ _ _ (by rw [units_length]; exact h), if_neg (by omega), hm j hj]
theorem blank_size : blank.size = 256 := by
  show (List.replicate 256 (0 : UInt8)).toArray.size = 256
  rw [List.size_toArray, List.length_replicate]
theorem new_calm (n : Nat) : Calm (D.new n blank) := ⟨rfl, rfl, rfl, fun x hx => by
  rw [List.eq_of_mem_replicate hx]; exact blank_size⟩
theorem pre_new (n : Nat) : List.replicate n false = pre 0 n := by simp [pre]
/-- Units given back at the end of the taken ones. -/
theorem pre_unput {u v K : Nat} : putB (pre (u + K) v) u K false = pre u (K + v) := by
  apply List.ext_getElem?
  intro i
  rw [Al.putB_get _ (by rw [pre_length]; omega), pre_get, pre_get]
  by_cases h1 : i < u
  · rw [if_neg (by omega), if_pos (by omega), if_pos h1]
  · by_cases h2 : i < u + K
    · rw [if_pos (by omega), if_neg h1, if_pos (by omega)]
    · rw [if_neg (by omega), if_neg h2, if_neg h1]
      by_cases h3 : i < u + K + v
      · rw [if_pos h3, if_pos (by omega)]
      · rw [if_neg h3, if_neg (by omega)]
theorem pre_giveR {u v S Z : Nat} (h : S + nsec Z ≤ u) (h0 : Z = 0 → S = 0) : giveR (pre u v) (S : Int) (Z : Int) = true := by
  unfold giveR
  rw [Bool.or_eq_true]
  by_cases hz : Z = 0
  · left
    rw [hz, h0 hz]
    rfl
  · right
    have hp := nsec_pos hz
    rw [Al.turnB_iff, secI_nat]
    refine ⟨by omega, by omega, by rw [pre_length]; omega, fun i hi => ?_⟩
    simp only [Int.toNat_natCast] at hi ⊢
    rw [pre_get, if_pos (by omega)]
theorem pre_giveL {u v S Z : Nat} (h : S + nsec Z = u) (h0 : Z ≠ 0) : giveL (pre u v) (S : Int) (Z : Int) = pre S (nsec Z + v) := by
  have hr : turnB (pre u v) (S : Int) (secI (Z : Int)) true = true := by
    have h1 := pre_giveR (v := v) (Nat.le_of_eq h) (fun e => absurd e h0)
    unfold giveR at h1
    rw [Bool.or_eq_true] at h1
    rcases h1 with h1 | h1
    · simp at h1; omega
    · exact h1
  rw [giveL, if_neg (by omega), hr, if_pos rfl, secI_nat, Int.toNat_natCast, Int.toNat_natCast, ← h, pre_unput]
end Go.Proofs.Ytpmjkgpmidejoaa
