/-
  What AllocBack leans on: a script that came in; the longest run; units that are counted.
-/
import Derived.Test.YthbgbehmknnohaaLawFirst
namespace Go.Proofs.Ythbgbehmknnohaa
open Go.RowKit Go.Shelf

abbrev OpT := Int × Int × Int
/-- The script in memory. -/
def Ops (w : World) (a : Option Addr) (ops : List OpT) : Prop := ops = [] ∨ ∃ b off, a = some ⟨b, off, none⟩ ∧ b < w.heap.size ∧
  ∀ j (h : j < ops.length), w.cell? ⟨b, off + j * 3, none⟩ = some (.int .i64 ops[j].1) ∧ w.cell? ⟨b, off + j * 3 + 1, none⟩ = some (.int .i64 ops[j].2.1) ∧ w.cell? ⟨b, off + j * 3 + 2, none⟩ = some (.int .i64 ops[j].2.2) ∧ ops[j].2.1 ≤ 9223372036854775807
theorem Ops.at {w : World} {a : Option Addr} {ops : List OpT} (h : Ops w a ops) {j : Nat} (hj : j < ops.length) : ∃ b off, a = some ⟨b, off, none⟩ ∧ ops[j].2.1 ≤ 9223372036854775807 ∧ ∀ w', Below w.heap.size w w' → w'.cell? ⟨b, off + j * 3, none⟩ = some (.int .i64 ops[j].1) ∧ w'.cell? ⟨b, off + j * 3 + 1, none⟩ = some (.int .i64 ops[j].2.1) ∧ w'.cell? ⟨b, off + j * 3 + 2, none⟩ = some (.int .i64 ops[j].2.2) := by
  rcases h with rfl | ⟨b, off, rfl, hb, hc⟩
  · simp at hj
  · obtain ⟨c0, c1, c2, h3⟩ := hc j hj
    exact ⟨b, off, rfl, h3, fun w' hw => ⟨(hw.cell (p := ⟨b, off + j * 3, none⟩) hb).trans c0, (hw.cell (p := ⟨b, off + j * 3 + 1, none⟩) hb).trans c1, (hw.cell (p := ⟨b, off + j * 3 + 2, none⟩) hb).trans c2⟩⟩

/-- The longest run. -/
def mxR (xs : List (Nat × Nat)) : Nat := xs.foldl (fun m x => max m x.2) 0
theorem mxR_snoc (xs : List (Nat × Nat)) (x : Nat × Nat) : mxR (xs ++ [x]) = max (mxR xs) x.2 := by simp [mxR]
theorem mx_iff (k : Nat) : ∀ (xs : List (Nat × Nat)) (m : Nat), k ≤ xs.foldl (fun m x => max m x.2) m ↔ k ≤ m ∨ ∃ x ∈ xs, k ≤ x.2
  | [], m => by simp
  | x :: r, m => by
    rw [List.foldl_cons, mx_iff k r]
    constructor
    · rintro (h | ⟨y, h1, h2⟩)
      · rcases Nat.le_total m x.2 with h3 | h3
        · rw [Nat.max_eq_right h3] at h; exact .inr ⟨x, List.mem_cons_self, h⟩
        · rw [Nat.max_eq_left h3] at h; exact .inl h
      · exact .inr ⟨y, List.mem_cons_of_mem _ h1, h2⟩
    · rintro (h | ⟨y, h1, h2⟩)
      · exact .inl (Nat.le_trans h (Nat.le_max_left _ _))
      · rcases List.mem_cons.1 h1 with rfl | h1
        · exact .inl (Nat.le_trans h2 (Nat.le_max_right _ _))
        · exact .inr ⟨y, h1, h2⟩
theorem take_iff {k : Nat} (hk : 1 ≤ k) (xs : List (Nat × Nat)) : (takeL k xs).isSome = true ↔ k ≤ mxR xs := by
  rw [takeL, List.find?_isSome, mxR, mx_iff]
  constructor
  · rintro ⟨x, h1, h2⟩; exact .inr ⟨x, h1, by simpa using h2⟩
  · rintro (h | ⟨x, h1, h2⟩)
    · omega
    · exact ⟨x, h1, by simpa using h2⟩
theorem mx_le {L : List Bool} : mxR (runsL L) ≤ L.length := by
  rcases Nat.lt_or_ge 0 (mxR (runsL L)) with h | h
  · have h1 : mxR (runsL L) ≤ mxR (runsL L) := Nat.le_refl _
    rw [mxR] at h1
    rcases (mx_iff _ _ _).1 h1 with h2 | ⟨x, h2, h3⟩
    · rw [mxR] at h; omega
    · have := (runs_mem h2).2.1
      rw [mxR]
      omega
  · omega
theorem count_put {L : List Bool} {a k : Nat} (h : a + k ≤ L.length) (ha : allB L a k false) : (putB L a k true).count false + k = L.count false := by
  have e : L = L.take a ++ List.replicate k false ++ L.drop (a + k) := (putB_same h ha).symm
  have e2 : L.count false = (L.take a ++ List.replicate k false ++ L.drop (a + k)).count false := by rw [← e]
  rw [e2, putB]
  simp only [List.count_append, List.count_replicate]
  simp
  omega
/-- What Take leaves, for the law: the answer, the count, and what Give makes of it. -/
theorem back_cases (L : List Bool) (k : Int) : ((takeF L k).2.1 ≠ 0 ∧ (takeF L k).2.2 = L ∧ ¬ (1 ≤ k ∧ k ≤ (mxR (runsL L) : Int))) ∨
    ∃ X K : Nat, k = (K : Int) ∧ 1 ≤ K ∧ K ≤ mxR (runsL L) ∧ (takeF L k).1 = (X : Int) ∧ (takeF L k).2.1 = 0 ∧ winP L K X ∧ (takeF L k).2.2 = putB L X K true := by
  by_cases hk : k < 1
  · left
    rw [takeF, if_pos hk]
    exact ⟨by show (1 : Int) ≠ 0; decide, rfl, by omega⟩
  · obtain ⟨K, rfl⟩ : ∃ K : Nat, k = (K : Int) := ⟨k.toNat, by omega⟩
    have hi := take_iff (k := K) (by omega) (runsL L)
    rw [takeF, if_neg hk]
    cases hx : takeL (K : Int).toNat (runsL L) with
    | none =>
      have hx' : takeL K (runsL L) = none := by simpa using hx
      rw [hx'] at hi
      exact .inl ⟨by show (60 : Int) ≠ 0; decide, rfl, fun h => by have := hi.2 (by omega); simp at this⟩
    | some x =>
      have hx' : takeL K (runsL L) = some x := by simpa using hx
      rw [hx'] at hi
      exact .inr ⟨x.1, K, rfl, by omega, hi.1 rfl, rfl, rfl, (take_some (by omega) hx').1, rfl⟩
theorem apart_at {xs : List (Nat × Nat)} (h : xs.Pairwise (fun x y => x.1 + x.2 < y.1)) {j : Nat} (hj : j + 1 < xs.length) : xs[j].1 + xs[j].2 < xs[j + 1].1 := List.pairwise_iff_getElem.1 h j (j + 1) (by omega) hj (by omega)
/-- What the law holds: the space, beside blocks that stay. -/
structure BI (w : World) (b N : Nat) (L : List Bool) (W : World) : Prop where
  sp : Spc W b L
  len : L.length = N
  old : Below w.heap.size w W
  hb : w.heap.size ≤ b
theorem BI.drew {w : World} {b N : Nat} {L : List Bool} {W : World} (h : BI w b N L W) : BI w b N L W.drew := ⟨h.sp.kept rfl, h.len, h.old.drew, h.hb⟩
theorem BI.step {w : World} {b N : Nat} {L L' : List Bool} {W W' : World} (h : BI w b N L W) (hs : Spc W' b L') (hl : L'.length = L.length) (hk : Kep (fun q => q ≠ b) W W') : BI w b N L' W' := by
  have h2 := h.hb
  exact ⟨hs, hl.trans h.len, h.old.trans ((hk.mono (K' := fun q => q < w.heap.size) fun q _ h3 => by omega).below h.old.size), h2⟩
theorem BI.below {w : World} {b N : Nat} {L : List Bool} {W W' : World} (h : BI w b N L W) (hb : Below W.heap.size W W') : BI w b N L W' := ⟨h.sp.below hb, h.len, h.old.trans (hb.mono h.old.size), h.hb⟩
/-- Besides, the runs that were told. -/
structure BR (w : World) (b N : Nat) (L : List Bool) (B : Nat) (a : Option Addr) (xs : List (Nat × Nat)) (W : World) : Prop where
  bi : BI w b N L W
  rw : Rws W B a xs
  hB : b < B
theorem BR.drew {w : World} {b N : Nat} {L : List Bool} {B : Nat} {a : Option Addr} {xs : List (Nat × Nat)} {W : World} (h : BR w b N L B a xs W) : BR w b N L B a xs W.drew := ⟨h.bi.drew, h.rw.below ((Below.refl _ W).drew), h.hB⟩
theorem drewN_kep (K : Nat → Prop) (W : World) (n : Nat) : Kep K W (W.drewN n) := ⟨rfl, rfl, rfl, Nat.le_refl _, fun _ _ _ => rfl⟩
theorem BR.drewN {w : World} {b N : Nat} {L : List Bool} {B : Nat} {a : Option Addr} {xs : List (Nat × Nat)} {W : World} (h : BR w b N L B a xs W) (n : Nat) : BR w b N L B a xs (W.drewN n) := by
  have hb : Below W.heap.size W (W.drewN n) := ⟨rfl, rfl, rfl, Nat.le_refl _, fun _ _ => rfl⟩
  exact ⟨h.bi.below hb, h.rw.below hb, h.hB⟩
theorem BR.step {w : World} {b N : Nat} {L L' : List Bool} {B : Nat} {a : Option Addr} {xs : List (Nat × Nat)} {W W' : World} (h : BR w b N L B a xs W) (hs : Spc W' b L') (hl : L'.length = L.length) (hk : Kep (fun q => q ≠ b) W W') : BR w b N L' B a xs W' := ⟨h.bi.step hs hl hk, h.rw.kept hk h.hB, h.hB⟩
theorem BR.below {w : World} {b N : Nat} {L : List Bool} {B : Nat} {a : Option Addr} {xs : List (Nat × Nat)} {W W' : World} (h : BR w b N L B a xs W) (hb : Below W.heap.size W W') : BR w b N L B a xs W' := ⟨h.bi.below hb, h.rw.below hb, h.hB⟩
theorem sum_take {xs : List (Nat × Nat)} {j : Nat} (h : j < xs.length) : sumR (xs.take (j + 1)) = sumR (xs.take j) + xs[j].2 := by rw [List.take_succ_eq_append_getElem h, sumR_snoc]
theorem mx_take {xs : List (Nat × Nat)} {j : Nat} (h : j < xs.length) : mxR (xs.take (j + 1)) = max (mxR (xs.take j)) xs[j].2 := by rw [List.take_succ_eq_append_getElem h, mxR_snoc]
theorem part3 (p q : Int) (w : World) : (part 3 #[Value.int IntKind.i64 p, Value.int IntKind.i64 q] 0).run Try.prog w = .ok (.int .i64 p) w ∧ (part 3 #[Value.int IntKind.i64 p, Value.int IntKind.i64 q] 1).run Try.prog w = .ok (.int .i64 q) w := by
  constructor <;> simp [part, isAgg, run_underlying Try.underlying3, go_sem]
theorem eq48 (p q : Int) (w : World) : (Op.equalIn 10000 48 (.agg #[.int .i64 p, .int .i64 q]) (.agg #[.int .i64 p, .int .i64 q])).run Try.prog w = .ok true w := by
  have h0 := fun w => (part3 p q w).1
  have h1 := fun w => (part3 p q w).2
  have e : ∀ a w, (Op.equalIn 9999 3 (.int .i64 a) (.int .i64 a)).run Try.prog w = .ok true w := fun a w => by
    have := run_equalIn_int (P := Try.prog) w 9998 3 .i64 .i64 a a Try.underlying3
    simpa using this
  unfold Op.equalIn
  simp [run_underlying Try.underlying48, show List.range' 0 2 = [0, 1] from rfl, h0, h1, e, Sem.run_bind]
theorem turn_len {L : List Bool} {s k : Int} {t u : Bool} : (if turnB L s k t then putB L s.toNat k.toNat u else L).length = L.length := by
  by_cases h : turnB L s k t = true
  · rw [if_pos h]
    obtain ⟨h1, h2, h3, _⟩ := turnB_iff.1 h
    exact putB_len _ (by omega)
  · rw [if_neg h]
end Go.Proofs.Ythbgbehmknnohaa
