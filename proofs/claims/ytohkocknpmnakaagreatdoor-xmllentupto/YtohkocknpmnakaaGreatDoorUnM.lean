/-
  How far a text is unescaped: the plain mathematics of the loop.
-/
import Derived.Test.YtohkocknpmnakaaGreatDoorNd
namespace Go.Proofs.YtohkocknpmnakaaGreatDoor
open Go.RowKit

structure UI (m : List UInt8) (pos d : Nat) (bl : List UInt8) : Prop where
  dl : d ≤ m.length
  bd : bl.length ≤ d
  nx : ∀ j, pos ≤ j → j < d → ∃ c, m[j]? = some c ∧ c.toNat < 128 ∧ c ≠ 38
  eq : unL m = (unL (m.drop (max pos d))).map fun x => bl ++ ((m.drop d).take (pos - d) ++ x)
theorem UI.start (m : List UInt8) : UI m 0 0 [] := ⟨Nat.zero_le _, Nat.le_refl _, fun j _ h => absurd h (Nat.not_lt_zero _), by simp⟩
theorem UI.behind {m : List UInt8} {pos d : Nat} {bl r : List UInt8} (h : UI m pos d bl) (hd : m.drop pos = 38 :: r) : d ≤ pos := by
  rw [← Nat.not_lt]
  intro hlt
  obtain ⟨c, h1, -, h2⟩ := h.nx pos (Nat.le_refl _) hlt
  have : m[pos]? = some 38 := by
    have := congrArg (fun l => l[0]?) hd
    simpa using this
  rw [this] at h1
  cases h1
  exact h2 rfl
theorem UI.step {m : List UInt8} {pos d : Nat} {bl r : List UInt8} {c : UInt8} (h : UI m pos d bl) (hd : m.drop pos = c :: r) (hc : c ≠ 38) : UI m (pos + (decL (c :: r)).2) d bl := by
  by_cases hp : pos < d
  · obtain ⟨c', h1, h2, h3⟩ := h.nx pos (Nat.le_refl _) hp
    have : m[pos]? = some c := by
      have := congrArg (fun l => l[0]?) hd
      simpa using this
    rw [this] at h1
    cases h1
    rw [dec_ascii c r h2]
    refine ⟨h.dl, h.bd, fun j h4 h5 => h.nx j (by simp at h4; omega) h5, ?_⟩
    have e1 : max (pos + 1) d = max pos d := by omega
    have e2 : pos + 1 - d = pos - d := by omega
    show unL m = (unL (m.drop (max (pos + 1) d))).map _
    rw [e1]
    simp only [e2]
    exact h.eq
  · have hle : d ≤ pos := by omega
    have hall : ∀ x ∈ (c :: r).take (decL (c :: r)).2, x ≠ 38 := by
      intro x hx
      by_cases ha : c.toNat < 128
      · rw [dec_ascii c r ha] at hx
        simp at hx
        subst hx
        exact hc
      · have := dec_take c r (by omega) x hx
        rintro rfl
        simp at this
    have hsp : unL (m.drop pos) = (unL (m.drop (pos + (decL (c :: r)).2))).map ((c :: r).take (decL (c :: r)).2 ++ ·) := by
      have e : m.drop (pos + (decL (c :: r)).2) = (c :: r).drop (decL (c :: r)).2 := by rw [← hd, List.drop_drop]
      rw [e, ← unL_app _ _ hall, List.take_append_drop, hd]
    refine ⟨h.dl, h.bd, fun j h4 h5 => by omega, ?_⟩
    generalize (decL (c :: r)).2 = K at *
    rw [show max (pos + K) d = pos + K by omega]
    have := h.eq
    rw [show max pos d = pos by omega, hsp, Option.map_map] at this
    rw [this]
    congr 1
    funext x
    simp only [Function.comp]
    have e3 : (m.drop d).take (pos + K - d) = (m.drop d).take (pos - d) ++ (c :: r).take K := by
      rw [show pos + K - d = (pos - d) + K by omega, List.take_add, List.drop_drop, show d + (pos - d) = pos by omega, hd]
    rw [e3]
    simp
theorem entN_two {a : List UInt8} {n : Nat} (h : entN a = some n) : 2 ≤ a.length := by
  unfold entN at h
  by_cases h1 : a = [97, 109, 112]
  · subst h1; decide
  · rw [if_neg h1] at h
    by_cases h2 : a = [108, 116]
    · subst h2; decide
    · rw [if_neg h2] at h
      by_cases h3 : a = [103, 116]
      · subst h3; decide
      · rw [if_neg h3] at h
        by_cases h4 : a = [113, 117, 111, 116]
        · subst h4; decide
        · rw [if_neg h4] at h
          by_cases h5 : a = [97, 112, 111, 115]
          · subst h5; decide
          · rw [if_neg h5] at h
            have key : ∀ b ds, numN b ds = some n → 1 ≤ ds.length := by
              intro b ds hh
              unfold numN at hh
              split at hh
              · next hx => exact hx.1
              · cases hh
            cases hx : eat [35, 120] a with
            | some ds =>
              rw [hx] at h
              have := key _ _ h
              have := (eat_len hx).1
              simp at this
              omega
            | none =>
              rw [hx] at h
              cases hy : eat [35] a with
              | none => rw [hy] at h; cases h
              | some ds =>
                rw [hy] at h
                have := key _ _ h
                have := (eat_len hy).1
                simp at this
                omega
theorem UI.fail {m : List UInt8} {pos d : Nat} {bl r : List UInt8} (h : UI m pos d bl) (hd : m.drop pos = 38 :: r) (hr : refN r = none) : unL m = none := by
  have hle := h.behind hd
  have := h.eq
  rw [show max pos d = pos by omega, hd, unL_amp] at this
  rw [this]
  unfold refN at hr
  split at hr
  · next hx => rw [if_pos hx]; rfl
  · next hx =>
    rw [if_neg hx, entL_N]
    cases e : entN (upto 59 r) with
    | none => rfl
    | some n => rw [e] at hr; cases hr
theorem UI.amp {m : List UInt8} {pos d : Nat} {bl r : List UInt8} (h : UI m pos d bl) (hd : m.drop pos = 38 :: r) {n k : Nat} (hr : refN r = some (n, k)) : UI m (pos + 1) (pos + k) (bl ++ ((m.drop d).take (pos - d) ++ Lib.encodeRune (n : Int))) ∧ 1 ≤ k := by
  have hle := h.behind hd
  have heq := h.eq
  rw [show max pos d = pos by omega, hd, unL_amp] at heq
  unfold refN at hr
  split at hr
  · cases hr
  · next hx =>
    simp only [Option.map_eq_some_iff, Prod.mk.injEq] at hr
    obtain ⟨n', hn, rfl, rfl⟩ := hr
    have hL : entL (upto 59 r) = some (Lib.encodeRune (n' : Int)) := by rw [entL_N, hn]; rfl
    rw [if_neg hx, hL] at heq
    have hok := ent_ok hL
    have h2 := entN_two hn
    have hul := upto_le 59 r
    have hmr : m.length = pos + (r.length + 1) := by
      have := congrArg List.length hd
      simp at this
      omega
    have henc : (Lib.encodeRune (n' : Int)).length ≤ 4 := by
      have := (Lib.encodeRuneZ_length (n' : Int)).2
      simpa [Lib.encodeRune] using this
    have hbd := h.bd
    have hdl := h.dl
    have hdr : m.drop (pos + ((upto 59 r).length + 2)) = r.drop ((upto 59 r).length + 1) := by
      rw [← List.drop_drop, hd]
      simp
    refine ⟨⟨by omega, ?_, ?_, ?_⟩, by omega⟩
    · simp only [List.length_append, List.length_take, List.length_drop]
      omega
    · intro j h4 h5
      have hs := upto_split hx
      have hj : m[j]? = (38 :: r)[j - pos]? := by
        rw [← hd, List.getElem?_drop]
        congr 1
        omega
      obtain ⟨i, hi⟩ : ∃ i, j - pos = i + 1 := ⟨j - pos - 1, by omega⟩
      rw [hi, List.getElem?_cons_succ] at hj
      by_cases hia : i < (upto 59 r).length
      · have e : r[i]? = some ((upto 59 r)[i]'hia) := by
          conv => lhs; rw [hs]
          rw [List.getElem?_append_left hia, List.getElem?_eq_getElem hia]
        have := hok.2 _ (List.getElem_mem hia)
        exact ⟨_, hj.trans e, this.2.1, this.2.2.1⟩
      · have e : r[i]? = some 59 := by
          conv => lhs; rw [hs]
          rw [List.getElem?_append_right (by omega), show i - (upto 59 r).length = 0 by omega]
          rfl
        exact ⟨59, hj.trans e, by decide, by decide⟩
    · rw [show max (pos + 1) (pos + ((upto 59 r).length + 2)) = pos + ((upto 59 r).length + 2) by omega, hdr, heq]
      rw [show pos + 1 - (pos + ((upto 59 r).length + 2)) = 0 by omega]
      simp only [Option.bind_some, Option.map_map, List.take_zero, List.nil_append]
      congr 1
      funext x
      simp
theorem UI.stop {m : List UInt8} {d : Nat} {bl : List UInt8} (h : UI m m.length d bl) : unL m = some (bl ++ m.drop d) := by
  have hdl := h.dl
  have := h.eq
  rw [show max m.length d = m.length by omega, List.drop_length] at this
  rw [this]
  show some _ = some _
  rw [List.take_of_length_le (by simp)]
  simp
theorem isB_below {T e : TypeId} {B b : Nat} {bs : List Value} {w w' : World} (h : Lib.IsBuilderF T e B b bs w) (hb : Below w.heap.size w w') : Lib.IsBuilderF T e B b bs w' := by
  have key : ∀ p, Lib.BuilderAtF T e B b p bs w → Lib.BuilderAtF T e B b p bs w' := by
    rintro p ⟨h1, v, h2, h3, h4⟩
    refine ⟨h1, v, (hb.block b (blk_lt h2)).trans h2, ⟨h3.1, ?_⟩, h4⟩
    rcases h3.2 with hn | ⟨g, cap, cur, fz, hv, hbg, hg, rest⟩
    · exact .inl hn
    · exact .inr ⟨g, cap, cur, fz, hv, hbg, (hb.block g (blk_lt hg)).trans hg, rest⟩
  exact h.elim (fun x => .inl (key _ x)) (fun x => .inr (key _ x))
theorem isB_new (w : World) : Lib.IsBuilderF 66 5 w.heap.size w.heap.size [] (w.alloc (.cells #[.pointer none, .slice none 0 0] 66)) :=
  .inl ⟨Nat.le_refl _, _, heap_alloc_new _ _, ⟨rfl, .inl ⟨rfl, rfl⟩⟩, by simp [Value.ownBlock]⟩
end Go.Proofs.YtohkocknpmnakaaGreatDoor
