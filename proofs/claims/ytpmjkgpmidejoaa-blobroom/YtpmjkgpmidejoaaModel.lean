/-
  A device told by plain lists: what lasts, what is seen, what waits, the fuse; and how it lies in memory.
-/
import Derived.Test.YtpmjkgpmidejoaaCore
namespace Go.Proofs.Ytpmjkgpmidejoaa
open Go.RowKit

structure D where
  L : List ByteArray
  S : List ByteArray
  C : List (Nat × ByteArray)
  st : Nat
  k : Int

/-- Writes laid one behind the other. -/
def app (L : List ByteArray) (C : List (Nat × ByteArray)) : List ByteArray := C.foldl (fun l p => l.set p.1 p.2) L
theorem app_length (C : List (Nat × ByteArray)) : ∀ L, (app L C).length = L.length := by
  induction C with
  | nil => intro L; rfl
  | cons p C ih => intro L; show (app (L.set p.1 p.2) C).length = _; rw [ih]; simp
theorem app_snoc (L : List ByteArray) (C : List (Nat × ByteArray)) (p : Nat × ByteArray) : app L (C ++ [p]) = (app L C).set p.1 p.2 := by simp [app]
theorem app_take {L : List ByteArray} {C : List (Nat × ByteArray)} {j : Nat} (h : j < C.length) : app L (C.take (j + 1)) = (app L (C.take j)).set C[j].1 C[j].2 := by
  rw [List.take_succ_eq_append_getElem h, app_snoc]

/-- The writes that a crash keeps. -/
def kept (keep : List Bool) (C : List (Nat × ByteArray)) : List (Nat × ByteArray) := (C.zipIdx.filter fun p => keep.getD p.2 false).map (·.1)
theorem kept_snoc (keep : List Bool) (C : List (Nat × ByteArray)) (p : Nat × ByteArray) : kept keep (C ++ [p]) = kept keep C ++ if keep.getD C.length false then [p] else [] := by
  simp only [kept, List.zipIdx_append, List.filter_append, List.map_append]
  congr 1
  simp only [List.zipIdx_cons, List.zipIdx_nil, Nat.zero_add, List.filter_cons, List.filter_nil]
  split <;> simp
theorem kept_take_yes {keep : List Bool} {C : List (Nat × ByteArray)} {j : Nat} (h : j < C.length) (hk : keep.getD j false = true) : kept keep (C.take (j + 1)) = kept keep (C.take j) ++ [C[j]] := by
  rw [List.take_succ_eq_append_getElem h, kept_snoc, List.length_take, Nat.min_eq_left (Nat.le_of_lt h), hk]
  rfl
theorem kept_take_no {keep : List Bool} {C : List (Nat × ByteArray)} {j : Nat} (h : j < C.length) (hk : keep.getD j false = false) : kept keep (C.take (j + 1)) = kept keep (C.take j) := by
  rw [List.take_succ_eq_append_getElem h, kept_snoc, List.length_take, Nat.min_eq_left (Nat.le_of_lt h), hk]
  simp

def D.burn (M : D) : Int × D := if M.st = 0 then (0, M) else if M.st = 1 ∧ 0 < M.k then (0, { M with k := M.k - 1 }) else (50, { M with st := 2 })
def D.wr (M : D) (i : Int) (b : ByteArray) : Int × D :=
  if M.st ≠ 2 ∧ ¬ (0 ≤ i ∧ i < (M.S.length : Int) ∧ b.size = 256) then (1, M)
  else if M.burn.1 ≠ 0 then M.burn
  else (0, { M.burn.2 with C := M.C ++ [(i.toNat, b)], S := M.S.set i.toNat b })
def D.flush (M : D) : Int × D := if M.burn.1 ≠ 0 then M.burn else (0, { M.burn.2 with L := app M.L M.C, C := [] })
def D.crash (M : D) (keep : List Bool) : D := { L := app M.L (kept keep M.C), S := app M.L (kept keep M.C), C := [], st := 0, k := 0 }
def D.fuse (M : D) (k : Int) : D := if M.st = 2 then M else if k < 0 then { M with st := 0, k := 0 } else { M with st := 1, k := k }
def D.new (n : Nat) (b : ByteArray) : D := { L := List.replicate n b, S := List.replicate n b, C := [], st := 0, k := 0 }

/-- What every device keeps. -/
structure D.Ok (M : D) : Prop where
  len : M.S.length = M.L.length
  pos : 0 < M.L.length
  top : M.L.length ≤ 4096
  sec : ∀ p ∈ M.C, p.1 < M.L.length
  st : M.st ≤ 2
  k0 : 0 ≤ M.k
  k1 : M.k ≤ 9223372036854775807

theorem D.burn_L (M : D) : M.burn.2.L = M.L ∧ M.burn.2.S = M.S ∧ M.burn.2.C = M.C := by
  unfold D.burn
  split
  · exact ⟨rfl, rfl, rfl⟩
  · split <;> exact ⟨rfl, rfl, rfl⟩
theorem D.Ok.burn {M : D} (h : M.Ok) : M.burn.2.Ok := by
  unfold D.burn
  have := h.k0
  have := h.k1
  split
  · exact h
  · split
    · rename_i h1
      exact ⟨h.len, h.pos, h.top, h.sec, h.st, by show 0 ≤ M.k - 1; omega, by show M.k - 1 ≤ _; omega⟩
    · exact ⟨h.len, h.pos, h.top, h.sec, Nat.le_refl _, h.k0, h.k1⟩
theorem D.Ok.wr {M : D} (h : M.Ok) (i : Int) (b : ByteArray) : (M.wr i b).2.Ok := by
  unfold D.wr
  split
  · exact h
  · split
    · exact h.burn
    · rename_i h1 h2
      have hb := h.burn
      obtain ⟨e1, e2, e3⟩ := M.burn_L
      have hlen := h.len
      refine ⟨?_, by show 0 < M.burn.2.L.length; rw [e1]; exact h.pos, by show M.burn.2.L.length ≤ _; rw [e1]; exact h.top, ?_, hb.st, hb.k0, hb.k1⟩
      · show (M.S.set i.toNat b).length = M.burn.2.L.length
        rw [e1, List.length_set]
        exact hlen
      · show ∀ p ∈ M.C ++ [(i.toNat, b)], p.1 < M.burn.2.L.length
        rw [e1]
        intro p hp
        rw [List.mem_append] at hp
        rcases hp with hp | hp
        · exact h.sec p hp
        · simp only [List.mem_singleton] at hp
          subst hp
          show i.toNat < M.L.length
          have hst : M.st ≠ 2 := by
            intro e
            apply h2
            unfold D.burn
            rw [if_neg (by omega), if_neg (by omega)]
            show (50 : Int) ≠ 0
            decide
          have : 0 ≤ i ∧ i < (M.S.length : Int) ∧ b.size = 256 := Classical.byContradiction fun hn => h1 ⟨hst, hn⟩
          omega
theorem D.Ok.flush {M : D} (h : M.Ok) : M.flush.2.Ok := by
  unfold D.flush
  split
  · exact h.burn
  · have hb := h.burn
    obtain ⟨e1, e2, e3⟩ := M.burn_L
    refine ⟨?_, ?_, ?_, by intro p hp; simp at hp, hb.st, hb.k0, hb.k1⟩
    · show M.burn.2.S.length = (app M.L M.C).length
      rw [e2, app_length]
      exact h.len
    · show 0 < (app M.L M.C).length
      rw [app_length]
      exact h.pos
    · show (app M.L M.C).length ≤ 4096
      rw [app_length]
      exact h.top
theorem D.Ok.crash {M : D} (h : M.Ok) (keep : List Bool) : (M.crash keep).Ok := by
  refine ⟨rfl, ?_, ?_, by intro p hp; simp [D.crash] at hp, by simp [D.crash], by simp [D.crash], by simp [D.crash]⟩
  · show 0 < (app _ _).length
    rw [app_length]
    exact h.pos
  · show (app _ _).length ≤ 4096
    rw [app_length]
    exact h.top
theorem D.Ok.fuse {M : D} (h : M.Ok) (k : Int) (hk : k ≤ 9223372036854775807) : (M.fuse k).Ok := by
  unfold D.fuse
  split
  · exact h
  · split
    · exact ⟨h.len, h.pos, h.top, h.sec, by show 0 ≤ 2; omega, by show (0 : Int) ≤ 0; omega, by show (0 : Int) ≤ _; omega⟩
    · exact ⟨h.len, h.pos, h.top, h.sec, by show 1 ≤ 2; omega, by show 0 ≤ k; omega, hk⟩
theorem D.Ok.new {n : Nat} (h0 : 0 < n) (h1 : n ≤ 4096) (b : ByteArray) : (D.new n b).Ok :=
  ⟨by simp [D.new], by simpa [D.new] using h0, by simpa [D.new] using h1, by intro p hp; simp [D.new] at hp, by simp [D.new], by simp [D.new], by simp [D.new]⟩

/-- How it lies in memory. -/
structure DevV (w : World) (d : Nat) (lv sv cv : Value) (M : D) : Prop where
  blk : w.heap[d]? = some (.cells #[lv, sv, cv, .int .i64 (M.st : Int), .int .i64 M.k] 82 (0, 0))
  lr : w.ownsRow 0 9 1 lv M.L.length (scs M.L)
  sr : w.ownsRow 0 9 1 sv M.S.length (scs M.S)
  cr : w.ownsRow 0 109 2 cv M.C.length (ccs M.C)
  dl : ∀ g, lv.ownBlock = some g → g ≠ d ∧ sv.ownBlock ≠ some g ∧ cv.ownBlock ≠ some g
  ds : ∀ g, sv.ownBlock = some g → g ≠ d ∧ cv.ownBlock ≠ some g
  dc : ∀ g, cv.ownBlock = some g → g ≠ d

def Foot (d : Nat) (lv sv cv : Value) (k : Nat) : Prop := k = d ∨ lv.ownBlock = some k ∨ sv.ownBlock = some k ∨ cv.ownBlock = some k

/-- A device all of whose blocks lie in F. -/
def Dev (w : World) (F : Nat → Prop) (d : Nat) (M : D) : Prop :=
  M.Ok ∧ (∀ k, F k → k < w.heap.size) ∧ ∃ lv sv cv, DevV w d lv sv cv M ∧ ∀ k, Foot d lv sv cv k → F k

theorem DevV.other {w w' : World} {d : Nat} {lv sv cv : Value} {M : D} (h : DevV w d lv sv cv M) (hh : ∀ k, Foot d lv sv cv k → w'.heap[k]? = w.heap[k]?) : DevV w' d lv sv cv M :=
  ⟨(hh d (.inl rfl)).trans h.blk, owns_other h.lr fun j hj => hh j (.inr (.inl hj)), owns_other h.sr fun j hj => hh j (.inr (.inr (.inl hj))), owns_other h.cr fun j hj => hh j (.inr (.inr (.inr hj))), h.dl, h.ds, h.dc⟩
theorem Dev.other {w w' : World} {F G : Nat → Prop} {d : Nat} {M : D} (h : Dev w F d M) (ht : Turn G w w') (hd : ∀ k, F k → ¬ G k) : Dev w' F d M := by
  obtain ⟨h0, h1, lv, sv, cv, h2, h3⟩ := h
  exact ⟨h0, fun k hk => by have := h1 k hk; have := ht.size; omega, lv, sv, cv, h2.other fun k hk => ht.block k (h1 k (h3 k hk)) (hd k (h3 k hk)), h3⟩
theorem Dev.below {w w' : World} {F : Nat → Prop} {d : Nat} {M : D} (h : Dev w F d M) (hb : Below w.heap.size w w') : Dev w' F d M :=
  h.other (G := fun _ => False) (Turn.of_below hb) (fun _ _ h => h)
theorem Dev.lt {w : World} {F : Nat → Prop} {d : Nat} {M : D} (h : Dev w F d M) : d < w.heap.size := by
  obtain ⟨_, h1, lv, sv, cv, _, h3⟩ := h
  exact h1 d (h3 d (.inl rfl))
theorem cell_blk {w : World} {g : Nat} {c : Array Value} {t : TypeId} (h : w.heap[g]? = some (.cells c t (0, 0))) (j : Nat) : w.cell? ⟨g, j, none⟩ = c[j]? := by simp [World.cell?, h]
theorem frozen_blk {w : World} {g : Nat} {c : Array Value} {t : TypeId} (h : w.heap[g]? = some (.cells c t (0, 0))) (j : Nat) : w.frozen? ⟨g, j, none⟩ = false := by
  simp only [World.frozen?, h]
  rw [Bool.and_eq_false_iff]
  right
  exact decide_eq_false (by omega)
theorem set_blk {w : World} {g : Nat} {c : Array Value} {t : TypeId} (h : w.heap[g]? = some (.cells c t (0, 0))) (j : Nat) (u : Value) : (w.setCell ⟨g, j, none⟩ u).heap[g]? = some (.cells (c.setIfInBounds j u) t (0, 0)) := by
  simp only [World.setCell, Array.getElem?_modify]
  rw [if_pos trivial, h]
  simp
theorem owns_setCell {w : World} {base : Nat} {e : TypeId} {size : Nat} {v : Value} {n : Nat} {xs : List Value} (h : w.ownsRow base e size v n xs) {p : Addr} (hp : v.ownBlock ≠ some p.block) (u : Value) : (w.setCell p u).ownsRow base e size v n xs :=
  owns_other h fun j hj => Below.heap_setCell _ _ _ _ (fun e => hp (by rw [hj, e]))
end Go.Proofs.Ytpmjkgpmidejoaa
