/-
  What came in: bytes that came in.
-/
import Derived.Test.YtpmjkgpmidejoaaRun22
import Derived.Test.YtpmjkgpmidejoaaRows
import Derived.WalkKit
import Derived.ProofKit
import Derived.OpenShut
import Derived.SizedLaws
import Derived.Deep.Slices
import Derived.Deep.Grids
namespace Go.Proofs.Ytpmjkgpmidejoaa
open Go.ChangeShapes Go.WideShapes Go.ChangeAt Go.RowKit

theorem cells3 : Try.prog.cellsOf 3 = 1 := by kernel_rfl
theorem cells4 : Try.prog.cellsOf 4 = 1 := by kernel_rfl
theorem ownK : ownKnob Try.prog.godebug = none := by kernel_rfl
theorem laidOut : laidOutB Try.prog = true := by kernel_rfl
theorem bytes5 : Try.prog.bytesOf 5 = 1 := by kernel_rfl
theorem cells5 : Try.prog.cellsOf 5 = 1 := by kernel_rfl
theorem wf_le {z : Int} (h : (Lit.int .i64 z).wf = true) : z ≤ 9223372036854775807 := by
  have hb : -9223372036854775808 ≤ z ∧ z ≤ 9223372036854775807 := by simpa [Lit.wf, IntKind.min, IntKind.max, IntKind.signed, IntKind.bits] using h
  exact hb.2
theorem bytes_of_ints {W : World} {x : Addr} {len cap : Nat} {zs : List Int} (hl : len ≤ cap) (hz : zs.length = cap)
    (hcell : ∀ i, i < zs.length → W.cell? (x.add i) = some (.int .u8 (zs.getD i 0))) (hwz : ∀ n ∈ zs, (Lit.int .u8 n).wf = true) :
    ∃ l : List UInt8, l.length = len ∧ Bytes W (some x) l := by
  refine ⟨(zs.take len).map (fun z => UInt8.ofNat z.toNat), by simp; omega, ?_⟩
  by_cases h0 : len = 0
  · subst h0
    exact .inl (by simp)
  · obtain ⟨b, off, spot⟩ := x
    have hc0 := hcell 0 (by omega)
    have hspot : spot = none := by simpa [Addr.add] using World.cell?_spot hc0
    subst hspot
    refine .inr ⟨b, off, rfl, ?_, fun j hj => ?_⟩
    · have := block_lt_of_cell hc0
      simpa [Addr.add] using this
    · have hj' : j < zs.length := by simp at hj; omega
      have := hcell j hj'
      rw [Addr.add_lit] at this
      rw [this]
      have hwf := hwz zs[j] (List.getElem_mem hj')
      have hb : 0 ≤ zs[j] ∧ zs[j] ≤ 255 := by simpa [Lit.wf, IntKind.min, IntKind.max, IntKind.signed, IntKind.bits] using hwf
      simp only [List.getElem_map, List.getElem_take]
      rw [UInt8.toNat_ofNat', Nat.mod_eq_of_lt (by omega), List.getD_eq_getElem?_getD, List.getElem?_eq_getElem hj']
      simp only [Option.getD_some]
      congr 2
      omega

end Go.Proofs.Ytpmjkgpmidejoaa
/-
  Refs one behind the other, and what is free while they are dropped; the law's own list of Refs.
-/
namespace Go.Proofs.Ytpmjkgpmidejoaa
open Go.RowKit
open Al (turnB putB allB winP)

theorem info40 : (Try.prog.info? 40).map (fun i => (i.zero, i.size, i.bytes)) = some (some (.agg #[.int .i64 0, .int .i64 0]), 2, 16) := by kernel_rfl
/-- Free units, taken ones, free ones. -/
def mid (x y z : Nat) : List Bool := List.replicate x false ++ (List.replicate y true ++ List.replicate z false)
theorem mid_length (x y z : Nat) : (mid x y z).length = x + y + z := by simp [mid]; omega
theorem mid_get (x y z i : Nat) : (mid x y z)[i]? = if i < x then some false else if i < x + y then some true else if i < x + y + z then some false else none := by
  rw [mid, List.getElem?_append, List.length_replicate, List.getElem?_replicate, List.getElem?_append, List.length_replicate, List.getElem?_replicate, List.getElem?_replicate]
  by_cases h1 : i < x
  · rw [if_pos h1, if_pos h1, if_pos h1]
  · rw [if_neg h1, if_neg h1]
    by_cases h2 : i < x + y
    · rw [if_pos (by omega), if_pos (by omega), if_pos h2]
    · rw [if_neg (by omega), if_neg h2]
      by_cases h3 : i < x + y + z
      · rw [if_pos (by omega), if_pos h3]
      · rw [if_neg (by omega), if_neg h3]
theorem mid_pre (u v : Nat) : mid 0 u v = pre u v := by simp [mid, pre]
theorem mid_end (x z : Nat) : mid x 0 z = pre 0 (x + z) := by simp [mid, pre, List.replicate_append_replicate]
theorem mid_turn {x y z K : Nat} (hK : 1 ≤ K) (h : K ≤ y) : turnB (mid x y z) (x : Int) (K : Int) true = true ∧ putB (mid x y z) x K false = mid (x + K) (y - K) z := by
  constructor
  · rw [Al.turnB_iff]
    refine ⟨by omega, by omega, by rw [mid_length]; omega, fun i hi => ?_⟩
    simp only [Int.toNat_natCast] at hi ⊢
    rw [mid_get, if_neg (by omega), if_pos (by omega)]
  · apply List.ext_getElem?
    intro i
    rw [Al.putB_get _ (by rw [mid_length]; omega), mid_get, mid_get]
    by_cases h1 : i < x
    · rw [if_neg (by omega), if_pos h1, if_pos (by omega)]
    · by_cases h2 : i < x + K
      · rw [if_pos (by omega), if_pos h2]
      · rw [if_neg (by omega), if_neg h1, if_neg h2, show x + K + (y - K) = x + y from by omega]
theorem mid_give {x y z Z : Nat} (h0 : Z ≠ 0) (h : nsec Z ≤ y) : giveR (mid x y z) (x : Int) (Z : Int) = true ∧ giveL (mid x y z) (x : Int) (Z : Int) = mid (x + nsec Z) (y - nsec Z) z ∧ giveR (mid (x + nsec Z) (y - nsec Z) z) (x : Int) (Z : Int) = false := by
  have hK := nsec_pos h0
  obtain ⟨h1, h2⟩ := mid_turn (x := x) (z := z) hK h
  have hz : ¬ ((x : Int) = 0 ∧ (Z : Int) = 0) := by omega
  have hd : (decide ((x : Int) = 0) && decide ((Z : Int) = 0)) = false := by simpa using fun _ => (by omega : ¬ Z = 0)
  refine ⟨by rw [giveR, secI_nat, h1, Bool.or_true], by rw [giveL, if_neg hz, secI_nat, h1, if_pos rfl, Int.toNat_natCast, Int.toNat_natCast, h2], ?_⟩
  rw [giveR, hd, Bool.false_or, secI_nat, Bool.eq_false_iff]
  intro h3
  obtain ⟨_, _, _, h4⟩ := Al.turnB_iff.1 h3
  have := h4 0 (by rw [Int.toNat_natCast]; omega)
  rw [Int.toNat_natCast, Nat.add_zero, mid_get, if_pos (by omega)] at this
  cases this
/-- A Ref of no data. -/
theorem none_give (L : List Bool) : giveR L 0 0 = true ∧ giveL L 0 0 = L := ⟨by simp [giveR], by simp [giveL]⟩

/-- Refs that lie one behind the other, from x up to y. -/
def chain : Nat → List (Nat × Nat) → Nat → Prop
  | x, [], y => x = y
  | x, p :: r, y => (p.2 = 0 ∧ p.1 = 0 ∧ chain x r y) ∨ (p.2 ≠ 0 ∧ p.1 = x ∧ chain (x + nsec p.2) r y)
theorem chain_le : ∀ (rs : List (Nat × Nat)) (x y : Nat), chain x rs y → x ≤ y
  | [], x, y, h => Nat.le_of_eq h
  | p :: r, x, y, h => by
    rcases h with ⟨_, _, h⟩ | ⟨_, _, h⟩
    · exact chain_le r _ _ h
    · have := chain_le r _ _ h; omega
theorem chain_none : ∀ (rs : List (Nat × Nat)) (x y : Nat), chain x rs y → chain x (rs ++ [(0, 0)]) y
  | [], _, _, h => .inl ⟨rfl, rfl, h⟩
  | _ :: r, _, _, h => h.imp (fun h => ⟨h.1, h.2.1, chain_none r _ _ h.2.2⟩) (fun h => ⟨h.1, h.2.1, chain_none r _ _ h.2.2⟩)
theorem chain_some {Z : Nat} (hZ : Z ≠ 0) : ∀ (rs : List (Nat × Nat)) (x y : Nat), chain x rs y → chain x (rs ++ [(y, Z)]) (y + nsec Z)
  | [], x, y, h => .inr ⟨hZ, h.symm, by rw [show x = y from h]; rfl⟩
  | _ :: r, _, _, h => h.imp (fun h => ⟨h.1, h.2.1, chain_some hZ r _ _ h.2.2⟩) (fun h => ⟨h.1, h.2.1, chain_some hZ r _ _ h.2.2⟩)

/-- The cells of Refs. -/
def rfs (rs : List (Nat × Nat)) : List Value := rs.flatMap fun p => [.int .i64 (p.1 : Int), .int .i64 (p.2 : Int)]
theorem rfs_len (rs : List (Nat × Nat)) : (rfs rs).length = rs.length * 2 := by
  induction rs with
  | nil => rfl
  | cons a l ih => simp [rfs] at ih ⊢; omega
theorem rfs_app (rs ts : List (Nat × Nat)) : rfs (rs ++ ts) = rfs rs ++ rfs ts := by simp [rfs]
theorem rfs_get : ∀ {rs : List (Nat × Nat)} {j : Nat} (h : j < rs.length), (rfs rs)[j * 2]? = some (.int .i64 (rs[j].1 : Int)) ∧ (rfs rs)[j * 2 + 1]? = some (.int .i64 (rs[j].2 : Int))
  | p :: r, 0, _ => ⟨rfl, rfl⟩
  | p :: r, j + 1, h => by
    have := rfs_get (rs := r) (j := j) (by simpa using h)
    rw [show rfs (p :: r) = .int .i64 (p.1 : Int) :: .int .i64 (p.2 : Int) :: rfs r from rfl, show (j + 1) * 2 = j * 2 + 1 + 1 from by omega]
    simpa using this

theorem BL.grown {w : World} {K K' : Nat → Prop} {b d s fr : Nat} {M : D} {L : List Bool} {wr w' : World} (h : BL w K b d s fr M L wr) (ht : Turn K wr w') (hK : ∀ k, K k → w.heap.size ≤ k) (hK' : ∀ k, K' k → K k ∨ (wr.heap.size ≤ k ∧ k < w'.heap.size)) : BL w K' b d s fr M L w' := by
  obtain ⟨F, h1, h2⟩ := h.st
  have hz := ht.size
  refine ⟨⟨F, ⟨h1.blb.kept (ht.block b h1.blb.lt h.hb.2), h1.dev.other ht (fun k hk => (h2 k hk).2), h1.sp.kept (ht.block s h1.sp.lt h.hs.2), h1.nb, h1.ns, h1.bs⟩, fun k hk => ⟨(h2 k hk).1, fun h3 => (hK' k h3).elim (h2 k hk).2 (fun h4 => by have := h1.dev.2.1 k hk; omega)⟩⟩, ⟨h.hb.1, fun h3 => (hK' b h3).elim h.hb.2 (fun h4 => by have := h1.blb.lt; omega)⟩, ⟨h.hs.1, fun h3 => (hK' s h3).elim h.hs.2 (fun h4 => by have := h1.sp.lt; omega)⟩, fun k hk => (hK' k hk).elim (fun h3 => by have := h.hk k h3; omega) (fun h3 => h3.2), h.old.trans (ht.below hK h.old.size)⟩

/-- The law's Blobs and its list of Refs. -/
structure RI (w : World) (b d s fr : Nat) (M : D) (L : List Bool) (rs : List (Nat × Nat)) (v : Value) (wr : World) : Prop where
  bl : BL w (fun k => v.ownBlock = some k) b d s fr M L wr
  row : wr.ownsRow w.heap.size 40 2 v rs.length (rfs rs)
theorem RI.below {w : World} {b d s fr : Nat} {M : D} {L : List Bool} {rs : List (Nat × Nat)} {v : Value} {wr w' : World} (h : RI w b d s fr M L rs v wr) (hb : Below wr.heap.size wr w') : RI w b d s fr M L rs v w' :=
  ⟨h.bl.below hb, keeps_below hb _ _ _ _ _ _ h.row⟩
theorem RI.step {w : World} {b d s fr : Nat} {M M' : D} {L L' : List Bool} {rs : List (Nat × Nat)} {v : Value} {wr w' : World} (h : RI w b d s fr M L rs v wr) (hb : BL w (fun k => v.ownBlock = some k) b d s fr M' L' w') (hs : Same (fun k => v.ownBlock = some k) wr w') : RI w b d s fr M' L' rs v w' :=
  ⟨hb, owns_other h.row fun j hj => hs j hj⟩
theorem RI.cell {w : World} {b d s fr : Nat} {M : D} {L : List Bool} {rs : List (Nat × Nat)} {v : Value} {wr : World} (h : RI w b d s fr M L rs v wr) {j : Nat} (hj : j < rs.length) : ∃ g c, v = .slice (some ⟨g, 0, none⟩) rs.length c ∧ w.heap.size ≤ g ∧ g < wr.heap.size ∧ wr.cell? ⟨g, j * 2, none⟩ = some (.int .i64 (rs[j].1 : Int)) ∧ wr.cell? ⟨g, j * 2 + 1, none⟩ = some (.int .i64 (rs[j].2 : Int)) := by
  obtain ⟨g, c, e, h1, h2, h3⟩ := owns_head h.row (by omega)
  have hr := h.row
  rw [e] at hr
  exact ⟨g, c, e, h2, h3, owns_cell hr (rfs_get hj).1, owns_cell hr (rfs_get hj).2⟩
/-- One Ref more. -/
theorem RI.snoc {w : World} {b d s fr : Nat} {M : D} {L : List Bool} {rs : List (Nat × Nat)} {v : Value} {wr : World} (h : RI w b d s fr M L rs v wr) (S Z : Nat) (hn : rs.length ≤ 1000) :
    ∃ v' w', (∀ ty, (Builtin.append_ #[22, 22] ty #[v, .slice (some ⟨wr.heap.size, 0, none⟩) 1 1]).run Try.prog (wr.alloc (.cells #[.int .i64 (S : Int), .int .i64 (Z : Int)] 40)) = .ok v' w') ∧ (∃ a c, v' = .slice a (rs.length + 1) c) ∧ RI w b d s fr M L (rs ++ [(S, Z)]) v' w' := by
  obtain ⟨i0, hi, hz0, hz1, hz2⟩ := info_parts info40
  have hA : Below wr.heap.size wr (wr.alloc (.cells #[.int .i64 (S : Int), .int .i64 (Z : Int)] 40)) := (Below.refl _ wr).alloc (Nat.le_refl _) _
  have h1 := h.below hA
  have hnews : ∀ j u, (rfs [(S, Z)])[j]? = some u → (wr.alloc (.cells #[.int .i64 (S : Int), .int .i64 (Z : Int)] 40)).cell? ((⟨wr.heap.size, 0, none⟩ : Addr).add j) = some u := by
    intro j u hj
    rw [Addr.add_lit, cell_blk (heap_alloc_new wr _), Nat.zero_add]
    simpa [rfs] using hj
  have hzw := h.bl.old.size
  obtain ⟨v', w', hr, h2, h3, h4⟩ := append_own2 (P := Try.prog) (wr.alloc (.cells #[.int .i64 (S : Int), .int .i64 (Z : Int)] 40)) w.heap.size 22 0 40 i0 _ 2 16 Try.underlying22 hi hz0 hz1 hz2 rfl (by decide) v rs.length (rfs rs) h1.row ⟨wr.heap.size, 0, none⟩ 1 1 (rfs [(S, Z)]) rfl hnews (by simp [rfs, Value.oneCell']) (by unfold maxLen; omega) (by omega) (by simp; omega)
  refine ⟨v', w', fun ty => hr, ?_, ?_, ?_⟩
  · obtain ⟨_, ⟨rfl, h0⟩ | ⟨g1, c1, u1, rfl, _⟩⟩ := h2
    · omega
    · exact ⟨_, _, rfl⟩
  · refine h1.bl.grown (Turn.of_grown h3 fun k hk => hk) (fun k hk => (owns_lt h1.row k hk).1) (fun k hk => ?_)
    rcases h4 with h4 | h4
    · exact .inl (h4 ▸ hk)
    · exact .inr ⟨h4 k hk, (owns_lt h2 k hk).2⟩
  · rw [List.length_append, rfs_app]
    exact h2
end Go.Proofs.Ytpmjkgpmidejoaa
