/-
  The names' table, out of the row's condition.
-/
import Derived.Test.YtnmffehmjgknkaaGreatDoorPfW
import Derived.Test.YtnmffehmjgknkaaGreatDoorRunD
import Derived.Lib.LaidTab
namespace Go.Proofs.YtnmffehmjgknkaaGreatDoor
open Go.RowKit Go.Lib

theorem cells_of_strs {H : Type} {enc : TypeId × Value → H} {P : Program} {w : World} {base : Nat} {sp : Nat → Bool} {held : Bool} {fuel : Nat} {t e : TypeId} {n : Nat} {cs : List Value} {zs : List (List UInt8)} {p : List MemPlace}
    (ht : P.underlying t = some (.array n e)) (he : P.underlying e = some .string) (hce : P.cellsOf e = 1) (hct : P.cellsOf t = n)
    (h : DataW.trod enc P w base sp held fuel t cs = some (.agg (zs.map fun z => .lit (.string z)), p)) : cs = zs.map fun z => Value.string ⟨z.toArray⟩ := by
  cases fuel with
  | zero => simp [DataW.trod] at h
  | succ fuel =>
    simp only [DataW.trod, ht, hce, hct, Nat.mul_one] at h
    split at h
    · rename_i hl
      obtain ⟨xs, hm, hx⟩ := Option.map_eq_some_iff.1 h
      have hxs : xs.map (·.1) = zs.map fun z => (DataW.lit (.string z) : DataW H) := by
        have := congrArg Prod.fst hx
        simpa using this
      have hxl : xs.length = n := by simpa using mapM_length hm
      have hzl : zs.length = n := by
        have := congrArg List.length hxs
        simp at this
        omega
      apply List.ext_getElem?
      intro i
      by_cases hi : i < n
      · obtain ⟨b, hb, hf⟩ := mapM_at hm i i (by simp [hi])
        obtain ⟨z, hc, hq, _⟩ := DataW.trod_string he hf
        have h1 : cs[i]? = some (.string z) := by
          have := congrArg (·[0]?) hc
          simpa [List.getElem?_take, List.getElem?_drop] using this
        have h2 : (xs.map (·.1))[i]? = some (DataW.lit (.string z.data.toList) : DataW H) := by
          have e : b.1 = .lit (.string z.data.toList) := congrArg Prod.fst hq
          simp [hb, e]
        rw [hxs] at h2
        simp only [List.getElem?_map, Option.map_eq_some_iff, DataW.lit.injEq, Lit.string.injEq] at h2
        obtain ⟨z', hz', he'⟩ := h2
        have es : (⟨z'.toArray⟩ : ByteArray) = z := by rw [he']
        simp [h1, hz', es]
      · rw [List.getElem?_eq_none (by omega), List.getElem?_eq_none (by simp; omega)]
    · cases h
set_option maxRecDepth 20000 in
theorem px_of {W : World} (h : laidMetH Tryz.prog Rows.sigCanonicalUptoRow.laid W) : Px W := by
  have h' : laidMet Tryz.prog Rows.sigCanonicalUptoRow.laid W := by
    unfold laidMetH at h
    rw [show (Rows.sigCanonicalUptoRow.laid.filter fun x => x.2.handleName?.isSome) = [] from by kernel_rfl] at h
    exact h
  obtain ⟨ps, hl, _⟩ := h'
  obtain ⟨_, _, _, _, _, _, _, _, _, _, hl, _⟩ := hl
  obtain ⟨_, _, _, _, _, _, _, _, _, _, hl, _⟩ := hl
  obtain ⟨_, _, _, _, _, _, _, _, _, _, hl, _⟩ := hl
  obtain ⟨_, _, _, _, _, _, _, _, _, _, hl, _⟩ := hl
  obtain ⟨g, t, cs, fuel, p, q, hg, ht, hvar, htr, _, _⟩ := hl
  obtain rfl : 0 = g := Option.some.inj ((show Tryz.prog.globalNamed "stowage/sig.pairNames" = some 0 from by kernel_rfl).symm.trans hg)
  obtain rfl : 108 = t := Option.some.inj ((show (Tryz.prog.globals[0]?).map (·.type) = some 108 from by kernel_rfl).symm.trans ht)
  have hcs := cells_of_strs (zs := [[88, 45, 65, 109, 122, 45, 65, 108, 103, 111, 114, 105, 116, 104, 109], [88, 45, 65, 109, 122, 45, 67, 114, 101, 100, 101, 110, 116, 105, 97, 108], [88, 45, 65, 109, 122, 45, 68, 97, 116, 101], [88, 45, 65, 109, 122, 45, 69, 120, 112, 105, 114, 101, 115], [88, 45, 65, 109, 122, 45, 83, 105, 103, 110, 101, 100, 72, 101, 97, 100, 101, 114, 115], [88, 45, 65, 109, 122, 45, 83, 105, 103, 110, 97, 116, 117, 114, 101]]) Tryz.underlying108 Tryz.underlying9 cells9 (by kernel_rfl) htr
  have h5 := World.var?_cell hg hvar 5
  have e5 : cs[5]? = some (.string ⟨sgB.toArray⟩) := by
    have := congrArg (·[5]?) hcs
    simpa [sgB] using this
  rw [e5] at h5
  exact h5
end Go.Proofs.YtnmffehmjgknkaaGreatDoor
