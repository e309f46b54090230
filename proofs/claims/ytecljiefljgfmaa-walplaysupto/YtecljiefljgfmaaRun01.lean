/-
  A device told by plain lists: what lasts, what is seen, what waits, the fuse; and how it lies in memory.
-/
import Derived.Test.YtecljiefljgfmaaCore
import Derived.Lib.SliceRun
import Derived.Lib.Walk
namespace Go.Proofs.Ytecljiefljgfmaa
open Go.RowKit

structure D where
  L : List ByteArray
  S : List ByteArray
  C : List (Nat × ByteArray)
  st : Nat
  k : Int

/-- Writes laid one behind the other. -/
def app (L : List ByteArray) (C : List (Nat × ByteArray)) : List ByteArray := C.foldl (fun l p => l.set p.1 p.2) L
theorem app_length (C : List (Nat × ByteArray)) : ∀ L, (app L C).length = L.length := by
  induction C with
  | nil => intro L; rfl
  | cons p C ih => intro L; show (app (L.set p.1 p.2) C).length = _; rw [ih]; simp
theorem app_snoc (L : List ByteArray) (C : List (Nat × ByteArray)) (p : Nat × ByteArray) : app L (C ++ [p]) = (app L C).set p.1 p.2 := by simp [app]
theorem app_take {L : List ByteArray} {C : List (Nat × ByteArray)} {j : Nat} (h : j < C.length) : app L (C.take (j + 1)) = (app L (C.take j)).set C[j].1 C[j].2 := by
  rw [List.take_succ_eq_append_getElem h, app_snoc]

/-- The writes that a crash keeps. -/
def kept (keep : List Bool) (C : List (Nat × ByteArray)) : List (Nat × ByteArray) := (C.zipIdx.filter fun p => keep.getD p.2 false).map (·.1)
theorem kept_snoc (keep : List Bool) (C : List (Nat × ByteArray)) (p : Nat × ByteArray) : kept keep (C ++ [p]) = kept keep C ++ if keep.getD C.length false then [p] else [] := by
  simp only [kept, List.zipIdx_append, List.filter_append, List.map_append]
  congr 1
  simp only [List.zipIdx_cons, List.zipIdx_nil, Nat.zero_add, List.filter_cons, List.filter_nil]
  split <;> simp
theorem kept_take_yes {keep : List Bool} {C : List (Nat × ByteArray)} {j : Nat} (h : j < C.length) (hk : keep.getD j false = true) : kept keep (C.take (j + 1)) = kept keep (C.take j) ++ [C[j]] := by
  rw [List.take_succ_eq_append_getElem h, kept_snoc, List.length_take, Nat.min_eq_left (Nat.le_of_lt h), hk]
  rfl
theorem kept_take_no {keep : List Bool} {C : List (Nat × ByteArray)} {j : Nat} (h : j < C.length) (hk : keep.getD j false = false) : kept keep (C.take (j + 1)) = kept keep (C.take j) := by
  rw [List.take_succ_eq_append_getElem h, kept_snoc, List.length_take, Nat.min_eq_left (Nat.le_of_lt h), hk]
  simp

def D.burn (M : D) : Int × D := if M.st = 0 then (0, M) else if M.st = 1 ∧ 0 < M.k then (0, { M with k := M.k - 1 }) else (50, { M with st := 2 })
def D.wr (M : D) (i : Int) (b : ByteArray) : Int × D :=
  if M.st ≠ 2 ∧ ¬ (0 ≤ i ∧ i < (M.S.length : Int) ∧ b.size = 256) then (1, M)
  else if M.burn.1 ≠ 0 then M.burn
  else (0, { M.burn.2 with C := M.C ++ [(i.toNat, b)], S := M.S.set i.toNat b })
def D.flush (M : D) : Int × D := if M.burn.1 ≠ 0 then M.burn else (0, { M.burn.2 with L := app M.L M.C, C := [] })
def D.crash (M : D) (keep : List Bool) : D := { L := app M.L (kept keep M.C), S := app M.L (kept keep M.C), C := [], st := 0, k := 0 }
def D.fuse (M : D) (k : Int) : D := if M.st = 2 then M else if k < 0 then { M with st := 0, k := 0 } else { M with st := 1, k := k }
def D.new (n : Nat) (b : ByteArray) : D := { L := List.replicate n b, S := List.replicate n b, C := [], st := 0, k := 0 }

/-- What every device keeps. -/
structure D.Ok (M : D) : Prop where
  len : M.S.length = M.L.length
  pos : 0 < M.L.length
  top : M.L.length ≤ 4096
  sec : ∀ p ∈ M.C, p.1 < M.L.length
  st : M.st ≤ 2
  k0 : 0 ≤ M.k
  k1 : M.k ≤ 9223372036854775807

theorem D.burn_L (M : D) : M.burn.2.L = M.L ∧ M.burn.2.S = M.S ∧ M.burn.2.C = M.C := by
  unfold D.burn
  split
  · exact ⟨rfl, rfl, rfl⟩
  · split <;> exact ⟨rfl, rfl, rfl⟩
theorem D.Ok.burn {M : D} (h : M.Ok) : M.burn.2.Ok := by
  unfold D.burn
  have := h.k0
  have := h.k1
  split
  · exact h
  · split
    · rename_i h1
      exact ⟨h.len, h.pos, h.top, h.sec, h.st, by show 0 ≤ M.k - 1; omega, by show M.k - 1 ≤ _; omega⟩
    · exact ⟨h.len, h.pos, h.top, h.sec, Nat.le_refl _, h.k0, h.k1⟩
theorem D.Ok.wr {M : D} (h : M.Ok) (i : Int) (b : ByteArray) : (M.wr i b).2.Ok := by
  unfold D.wr
  split
  · exact h
  · split
    · exact h.burn
    · rename_i h1 h2
      have hb := h.burn
      obtain ⟨e1, e2, e3⟩ := M.burn_L
      have hlen := h.len
      refine ⟨?_, by show 0 < M.burn.2.L.length; rw [e1]; exact h.pos, by show M.burn.2.L.length ≤ _; rw [e1]; exact h.top, ?_, hb.st, hb.k0, hb.k1⟩
      · show (M.S.set i.toNat b).length = M.burn.2.L.length
        rw [e1, List.length_set]
        exact hlen
      · show ∀ p ∈ M.C ++ [(i.toNat, b)], p.1 < M.burn.2.L.length
        rw [e1]
        intro p hp
        rw [List.mem_append] at hp
        rcases hp with hp | hp
        · exact h.sec p hp
        · simp only [List.mem_singleton] at hp
          subst hp
          show i.toNat < M.L.length
          have hst : M.st ≠ 2 := by
            intro e
            apply h2
            unfold D.burn
            rw [if_neg (by omega), if_neg (by omega)]
            show (50 : Int) ≠ 0
            decide
          have : 0 ≤ i ∧ i < (M.S.length : Int) ∧ b.size = 256 := Classical.byContradiction fun hn => h1 ⟨hst, hn⟩
          omega
theorem D.Ok.flush {M : D} (h : M.Ok) : M.flush.2.Ok := by
  unfold D.flush
  split
  · exact h.burn
  · have hb := h.burn
    obtain ⟨e1, e2, e3⟩ := M.burn_L
    refine ⟨?_, ?_, ?_, by intro p hp; simp at hp, hb.st, hb.k0, hb.k1⟩
    · show M.burn.2.S.length = (app M.L M.C).length
      rw [e2, app_length]
      exact h.len
    · show 0 < (app M.L M.C).length
      rw [app_length]
      exact h.pos
    · show (app M.L M.C).length ≤ 4096
      rw [app_length]
      exact h.top
theorem D.Ok.crash {M : D} (h : M.Ok) (keep : List Bool) : (M.crash keep).Ok := by
  refine ⟨rfl, ?_, ?_, by intro p hp; simp [D.crash] at hp, by simp [D.crash], by simp [D.crash], by simp [D.crash]⟩
  · show 0 < (app _ _).length
    rw [app_length]
    exact h.pos
  · show (app _ _).length ≤ 4096
    rw [app_length]
    exact h.top
theorem D.Ok.fuse {M : D} (h : M.Ok) (k : Int) (hk : k ≤ 9223372036854775807) : (M.fuse k).Ok := by
  unfold D.fuse
  split
  · exact h
  · split
    · exact ⟨h.len, h.pos, h.top, h.sec, by show 0 ≤ 2; omega, by show (0 : Int) ≤ 0; omega, by show (0 : Int) ≤ _; omega⟩
    · exact ⟨h.len, h.pos, h.top, h.sec, by show 1 ≤ 2; omega, by show 0 ≤ k; omega, hk⟩
theorem D.Ok.new {n : Nat} (h0 : 0 < n) (h1 : n ≤ 4096) (b : ByteArray) : (D.new n b).Ok :=
  ⟨by simp [D.new], by simpa [D.new] using h0, by simpa [D.new] using h1, by intro p hp; simp [D.new] at hp, by simp [D.new], by simp [D.new], by simp [D.new]⟩

/-- How it lies in memory. -/
structure DevV (w : World) (d : Nat) (lv sv cv : Value) (M : D) : Prop where
  blk : w.heap[d]? = some (.cells #[lv, sv, cv, .int .i64 (M.st : Int), .int .i64 M.k] 84 (0, 0))
  lr : w.ownsRow 0 9 1 lv M.L.length (scs M.L)
  sr : w.ownsRow 0 9 1 sv M.S.length (scs M.S)
  cr : w.ownsRow 0 104 2 cv M.C.length (ccs M.C)
  dl : ∀ g, lv.ownBlock = some g → g ≠ d ∧ sv.ownBlock ≠ some g ∧ cv.ownBlock ≠ some g
  ds : ∀ g, sv.ownBlock = some g → g ≠ d ∧ cv.ownBlock ≠ some g
  dc : ∀ g, cv.ownBlock = some g → g ≠ d

def Foot (d : Nat) (lv sv cv : Value) (k : Nat) : Prop := k = d ∨ lv.ownBlock = some k ∨ sv.ownBlock = some k ∨ cv.ownBlock = some k

/-- A device all of whose blocks lie in F. -/
def Dev (w : World) (F : Nat → Prop) (d : Nat) (M : D) : Prop :=
  M.Ok ∧ (∀ k, F k → k < w.heap.size) ∧ ∃ lv sv cv, DevV w d lv sv cv M ∧ ∀ k, Foot d lv sv cv k → F k

theorem DevV.other {w w' : World} {d : Nat} {lv sv cv : Value} {M : D} (h : DevV w d lv sv cv M) (hh : ∀ k, Foot d lv sv cv k → w'.heap[k]? = w.heap[k]?) : DevV w' d lv sv cv M :=
  ⟨(hh d (.inl rfl)).trans h.blk, owns_other h.lr fun j hj => hh j (.inr (.inl hj)), owns_other h.sr fun j hj => hh j (.inr (.inr (.inl hj))), owns_other h.cr fun j hj => hh j (.inr (.inr (.inr hj))), h.dl, h.ds, h.dc⟩
theorem Dev.other {w w' : World} {F G : Nat → Prop} {d : Nat} {M : D} (h : Dev w F d M) (ht : Turn G w w') (hd : ∀ k, F k → ¬ G k) : Dev w' F d M := by
  obtain ⟨h0, h1, lv, sv, cv, h2, h3⟩ := h
  exact ⟨h0, fun k hk => by have := h1 k hk; have := ht.size; omega, lv, sv, cv, h2.other fun k hk => ht.block k (h1 k (h3 k hk)) (hd k (h3 k hk)), h3⟩
theorem Dev.below {w w' : World} {F : Nat → Prop} {d : Nat} {M : D} (h : Dev w F d M) (hb : Below w.heap.size w w') : Dev w' F d M :=
  h.other (G := fun _ => False) (Turn.of_below hb) (fun _ _ h => h)
theorem Dev.lt {w : World} {F : Nat → Prop} {d : Nat} {M : D} (h : Dev w F d M) : d < w.heap.size := by
  obtain ⟨_, h1, lv, sv, cv, _, h3⟩ := h
  exact h1 d (h3 d (.inl rfl))
theorem cell_blk {w : World} {g : Nat} {c : Array Value} {t : TypeId} (h : w.heap[g]? = some (.cells c t (0, 0))) (j : Nat) : w.cell? ⟨g, j, none⟩ = c[j]? := by simp [World.cell?, h]
theorem frozen_blk {w : World} {g : Nat} {c : Array Value} {t : TypeId} (h : w.heap[g]? = some (.cells c t (0, 0))) (j : Nat) : w.frozen? ⟨g, j, none⟩ = false := by
  simp only [World.frozen?, h]
  rw [Bool.and_eq_false_iff]
  right
  exact decide_eq_false (by omega)
theorem set_blk {w : World} {g : Nat} {c : Array Value} {t : TypeId} (h : w.heap[g]? = some (.cells c t (0, 0))) (j : Nat) (u : Value) : (w.setCell ⟨g, j, none⟩ u).heap[g]? = some (.cells (c.setIfInBounds j u) t (0, 0)) := by
  simp only [World.setCell, Array.getElem?_modify]
  rw [if_pos trivial, h]
  simp
theorem owns_setCell {w : World} {base : Nat} {e : TypeId} {size : Nat} {v : Value} {n : Nat} {xs : List Value} (h : w.ownsRow base e size v n xs) {p : Addr} (hp : v.ownBlock ≠ some p.block) (u : Value) : (w.setCell p u).ownsRow base e size v n xs :=
  owns_other h fun j hj => Below.heap_setCell _ _ _ _ (fun e => hp (by rw [hj, e]))
end Go.Proofs.Ytecljiefljgfmaa
/-
  Size, Pending, Dead, has, Fuse and burn by their contracts.
-/
namespace Go.Proofs.Ytecljiefljgfmaa
open Go.RowKit

/-- What a walk reads of a device. -/
theorem Dev.open {w : World} {F : Nat → Prop} {d : Nat} {M : D} (h : Dev w F d M) : ∃ gl cl gs cs ca cc, DevV w d (.slice (some ⟨gl, 0, none⟩) M.L.length cl) (.slice (some ⟨gs, 0, none⟩) M.S.length cs) (.slice ca M.C.length cc) M ∧ (∀ k, Foot d (.slice (some ⟨gl, 0, none⟩) M.L.length cl) (.slice (some ⟨gs, 0, none⟩) M.S.length cs) (.slice ca M.C.length cc) k → F k) ∧ M.S.length ≤ cs ∧ M.L.length ≤ cl := by
  obtain ⟨h0, h1, lv, sv, cv, h2, h3⟩ := h
  obtain ⟨gl, cl, rfl, hcl, _⟩ := owns_head h2.lr h0.pos
  obtain ⟨gs, cs, rfl, hcs, _⟩ := owns_head h2.sr (by rw [h0.len]; exact h0.pos)
  have : ∃ ca cc, cv = .slice ca M.C.length cc := by
    obtain ⟨_, ⟨rfl, hn⟩ | ⟨g, cap, cur, rfl, _⟩⟩ := h2.cr
    · exact ⟨none, 0, by rw [hn]⟩
    · exact ⟨_, _, rfl⟩
  obtain ⟨ca, cc, rfl⟩ := this
  exact ⟨gl, cl, gs, cs, ca, cc, h2, h3, hcs, hcl⟩

theorem ret_bool {p q : Bool} (g : p = q) : Ending.returned (.bool p) = .returned (.bool q) := by rw [g]
theorem ret_int {k : IntKind} {a b : Int} (h : a = b) : Ending.returned (.int k a) = .returned (.int k b) := by rw [h]

theorem size_any (d : Nat) (w : World) (F : Nat → Prop) (M : D) (h : Dev w F d M) :
    Calls Try.prog 73 #[.pointer (some ⟨d, 0, none⟩)] w fun e w' => e = .returned (.int .i64 (M.L.length : Int)) ∧ w = w' := by
  have hlen := h.1.len
  obtain ⟨gl, cl, gs, cs, ca, cc, hV, _⟩ := h.open
  have c1 := cell_blk hV.blk 1
  simp only [List.getElem?_toArray] at c1
  rw [← hlen]
  clear hV hlen h
  go_enter Try.func73, Try.ntmps73
  go_wp2
  go_ret
  exact ⟨rfl, rfl⟩

theorem pending_any (d : Nat) (w : World) (F : Nat → Prop) (M : D) (h : Dev w F d M) :
    Calls Try.prog 29 #[.pointer (some ⟨d, 0, none⟩)] w fun e w' => e = .returned (.int .i64 (M.C.length : Int)) ∧ w = w' := by
  obtain ⟨gl, cl, gs, cs, ca, cc, hV, _⟩ := h.open
  have c1 := cell_blk hV.blk 2
  simp only [List.getElem?_toArray] at c1
  clear hV h
  go_enter Try.func29, Try.ntmps29
  go_wp2
  go_ret
  exact ⟨rfl, rfl⟩

theorem has_any (d : Nat) (i : Int) (w : World) (F : Nat → Prop) (M : D) (h : Dev w F d M) :
    Calls Try.prog 55 #[.pointer (some ⟨d, 0, none⟩), .int .i64 i] w fun e w' => e = .returned (.bool (decide (0 ≤ i ∧ i < (M.S.length : Int)))) ∧ w = w' := by
  obtain ⟨gl, cl, gs, cs, ca, cc, hV, _⟩ := h.open
  have c1 := cell_blk hV.blk 1
  simp only [List.getElem?_toArray] at c1
  clear hV h
  go_enter Try.func55, Try.ntmps55
  go_wp2
  all_goals (go_ret; exact ⟨ret_bool (by rw [Bool.eq_iff_iff]; simp; try omega), rfl⟩)

theorem DevV.setD {w w' : World} {d : Nat} {lv sv cv : Value} {M : D} (h : DevV w d lv sv cv M) (st' : Nat) (k' : Int) (hb : w'.heap[d]? = some (.cells #[lv, sv, cv, .int .i64 (st' : Int), .int .i64 k'] 84 (0, 0))) (ho : ∀ k, k ≠ d → w'.heap[k]? = w.heap[k]?) : DevV w' d lv sv cv { M with st := st', k := k' } :=
  ⟨hb, owns_other h.lr fun j hj => ho j (h.dl j hj).1, owns_other h.sr fun j hj => ho j (h.ds j hj).1, owns_other h.cr fun j hj => ho j (h.dc j hj), h.dl, h.ds, h.dc⟩
theorem Dev.setD {w w' : World} {F : Nat → Prop} {d : Nat} {lv sv cv : Value} {M M' : D} (h : DevV w d lv sv cv M) (hF : ∀ k, Foot d lv sv cv k → F k) (hl : ∀ k, F k → k < w.heap.size) (st' : Nat) (k' : Int) (hok : M'.Ok) (hM : M' = { M with st := st', k := k' }) (hb : w'.heap[d]? = some (.cells #[lv, sv, cv, .int .i64 (st' : Int), .int .i64 k'] 84 (0, 0))) (hT : Turn (fun k => k = d) w w') (ho : ∀ k, k ≠ d → w'.heap[k]? = w.heap[k]?) : Dev w' F d M' ∧ Turn F w w' := by
  subst hM
  exact ⟨⟨hok, fun k hk => Nat.lt_of_lt_of_le (hl k hk) hT.size, lv, sv, cv, h.setD st' k' hb ho, hF⟩, hT.mono fun k hk => hF k (.inl hk)⟩

set_option maxHeartbeats 1000000 in
theorem burn_any (d : Nat) (w : World) (F : Nat → Prop) (M : D) (h : Dev w F d M) :
    Calls Try.prog 56 #[.pointer (some ⟨d, 0, none⟩)] w fun e w' => e = .returned (.int .i64 M.burn.1) ∧ Dev w' F d M.burn.2 ∧ Turn F w w' := by
  obtain ⟨gl, cl, gs, cs, ca, cc, hV, hF, _, _⟩ := h.open
  have c3 := cell_blk hV.blk 3
  have c4 := cell_blk hV.blk 4
  have f3 := frozen_blk hV.blk 3
  have f4 := frozen_blk hV.blk 4
  simp only [List.getElem?_toArray] at c3 c4
  have hk0 := h.1.k0
  have hk1 := h.1.k1
  have hst := h.1.st
  have HV := (show Hid _ from hV)
  have HF := (show Hid _ from hF)
  have HD : Hid (Dev w F d M) := h
  clear hV hF h
  rcases (by omega : M.st = 0 ∨ M.st = 1 ∨ M.st = 2) with hs | hs | hs
  · have e : M.burn = (0, M) := by simp [D.burn, hs]
    rw [hs] at c3
    rw [e]
    go_enter Try.func56, Try.ntmps56
    go_wp2
    go_ret
    exact ⟨rfl, HD.out, Turn.refl _ _⟩
  · rw [hs] at c3
    have HS : Hid (M.st = 1) := hs
    clear hs
    by_cases hk : 0 < M.k
    · have e : M.burn = (0, { M with k := M.k - 1 }) := by simp [D.burn, HS.out, hk]
      have hok : ({ M with k := M.k - 1 } : D).Ok := by have := HD.out.1.burn; rw [e] at this; exact this
      rw [e]
      go_enter Try.func56, Try.ntmps56
      go_wp2
      go_ret
      refine ⟨rfl, Dev.setD HV.out HF.out HD.out.2.1 1 (M.k - 1) hok ?_ (set_blk HV.out.blk 4 _ |>.trans ?_) ((Turn.refl (fun k => k = d) _).setCell (by rfl) _) (fun k hk => Below.heap_setCell _ _ _ _ hk)⟩
      · rw [← HS.out]
      · rw [HS.out]
        rfl
    · have e : M.burn = (50, { M with st := 2 }) := by simp [D.burn, HS.out, hk]
      have hok : ({ M with st := 2 } : D).Ok := by have := HD.out.1.burn; rw [e] at this; exact this
      rw [e]
      go_enter Try.func56, Try.ntmps56
      go_wp2
      go_ret
      refine ⟨rfl, Dev.setD HV.out HF.out HD.out.2.1 2 M.k hok rfl (set_blk HV.out.blk 3 _ |>.trans ?_) ((Turn.refl (fun k => k = d) _).setCell (by rfl) _) (fun k hk => Below.heap_setCell _ _ _ _ hk)⟩
      rfl
  · have e : M.burn = (50, M) := by simp only [D.burn, hs]; simp; rw [← hs]
    rw [hs] at c3
    rw [e]
    go_enter Try.func56, Try.ntmps56
    go_wp2
    go_ret
    exact ⟨rfl, HD.out, Turn.refl _ _⟩

set_option maxHeartbeats 1000000 in
theorem fuse_any (d : Nat) (q : Int) (w : World) (F : Nat → Prop) (M : D) (h : Dev w F d M) (hq : q ≤ 9223372036854775807) :
    Calls Try.prog 19 #[.pointer (some ⟨d, 0, none⟩), .int .i64 q] w fun e w' => e = .returned (.tuple #[]) ∧ Dev w' F d (M.fuse q) ∧ Turn F w w' := by
  obtain ⟨gl, cl, gs, cs, ca, cc, hV, hF, _, _⟩ := h.open
  have c3 := cell_blk hV.blk 3
  have c4 := cell_blk hV.blk 4
  have f3 := frozen_blk hV.blk 3
  have f4 := frozen_blk hV.blk 4
  simp only [List.getElem?_toArray] at c3 c4
  have hok := h.1.fuse q hq
  have HV := (show Hid _ from hV)
  have HF := (show Hid _ from hF)
  have HD : Hid (Dev w F d M) := h
  clear hV hF h
  by_cases hs : M.st = 2
  · have e : M.fuse q = M := by simp [D.fuse, hs]
    rw [hs] at c3
    rw [e]
    go_enter Try.func19, Try.ntmps19
    go_wp2
    refine bodyPost_end (results_none rfl _ _ _) rfl ?_
    exact ⟨rfl, HD.out, Turn.refl _ _⟩
  · have hs' : ((M.st : Int) == 2) = false := by simp; omega
    by_cases hk : q < 0
    · have e : M.fuse q = { M with st := 0, k := 0 } := by simp [D.fuse, hs, hk]
      rw [e] at hok ⊢
      clear hs
      go_enter Try.func19, Try.ntmps19
      go_wp2
      refine bodyPost_end (results_none rfl _ _ _) rfl ?_
      refine ⟨rfl, Dev.setD HV.out HF.out HD.out.2.1 0 0 hok rfl (set_blk (set_blk HV.out.blk 3 _) 4 _ |>.trans ?_) (((Turn.refl (fun k => k = d) _).setCell (by rfl) _).setCell (by rfl) _) (fun k hk => (Below.heap_setCell _ _ _ _ hk).trans (Below.heap_setCell _ _ _ _ hk))⟩
      rfl
    · have e : M.fuse q = { M with st := 1, k := q } := by simp [D.fuse, hs, hk]
      rw [e] at hok ⊢
      clear hs
      go_enter Try.func19, Try.ntmps19
      go_wp2
      refine bodyPost_end (results_none rfl _ _ _) rfl ?_
      refine ⟨rfl, Dev.setD HV.out HF.out HD.out.2.1 1 q hok rfl (set_blk (set_blk HV.out.blk 3 _) 4 _ |>.trans ?_) (((Turn.refl (fun k => k = d) _).setCell (by rfl) _).setCell (by rfl) _) (fun k hk => (Below.heap_setCell _ _ _ _ hk).trans (Below.heap_setCell _ _ _ _ hk))⟩
      rfl
end Go.Proofs.Ytecljiefljgfmaa
/-
  Flush by its contract.
-/
namespace Go.Proofs.Ytecljiefljgfmaa
open Go.RowKit

theorem alloc_set {w : World} (o : Obj) {g i : Nat} (u : Value) : ∀ k, k < w.heap.size → ((w.alloc o).setCell ⟨g, i, none⟩ u).heap[k]? = (w.setCell ⟨g, i, none⟩ u).heap[k]? := by
  intro k hk
  have hp : (w.alloc o).heap[k]? = w.heap[k]? := Below.heap_alloc _ _ _ hk
  simp only [World.setCell, Array.getElem?_modify, hp]

/-- One of the waiting writes made lasting: what the round leaves. -/
theorem DevV.setL {w w' : World} {d gl n cl i : Nat} {sv cv : Value} {M : D} {b : ByteArray} (h : DevV w d (.slice (some ⟨gl, 0, none⟩) n cl) sv cv M) (hn : M.L.length = n) (hw : ∀ k, k < w.heap.size → w'.heap[k]? = (w.setCell ⟨gl, i, none⟩ (.string b)).heap[k]?) : DevV w' d (.slice (some ⟨gl, 0, none⟩) n cl) sv cv { M with L := M.L.set i b } := by
  subst hn
  have dl := h.dl gl rfl
  have lt : ∀ k, k ≠ gl → k < w.heap.size → w'.heap[k]? = w.heap[k]? := fun k hk hlt => (hw k hlt).trans (Below.heap_setCell _ _ _ _ hk)
  have kd : d < w.heap.size := (Array.getElem?_eq_some_iff.1 h.blk).1
  refine ⟨(lt d dl.1.symm kd).trans h.blk, ?_, ?_, ?_, h.dl, h.ds, h.dc⟩
  · have o := owns_set h.lr i (.string b)
    rw [← scs_set] at o
    show w'.ownsRow 0 9 1 _ (M.L.set i b).length (scs (M.L.set i b))
    rw [List.length_set]
    refine owns_other o fun j hj => ?_
    obtain rfl : gl = j := by simpa [Value.ownBlock] using hj
    exact hw gl (World.ownsRow.lt h.lr gl rfl).2
  · exact owns_other h.sr fun j hj => lt j (fun e => dl.2.1 (by rw [hj, e])) (World.ownsRow.lt h.sr j hj).2
  · exact owns_other h.cr fun j hj => lt j (fun e => dl.2.2 (by rw [hj, e])) (World.ownsRow.lt h.cr j hj).2

theorem DevV.kept {w w' : World} {d : Nat} {lv sv cv : Value} {M : D} (h : DevV w d lv sv cv M) (hw : ∀ k, k < w.heap.size → w'.heap[k]? = w.heap[k]?) : DevV w' d lv sv cv M := by
  refine h.other fun k hk => hw k ?_
  rcases hk with hk | hk | hk | hk
  · rw [hk]; exact (Array.getElem?_eq_some_iff.1 h.blk).1
  · exact (World.ownsRow.lt h.lr k hk).2
  · exact (World.ownsRow.lt h.sr k hk).2
  · exact (World.ownsRow.lt h.cr k hk).2

set_option maxHeartbeats 4000000 in
theorem flush_go (d : Nat) (w : World) (F : Nat → Prop) (M : D) (h : Dev w F d M) (h0 : M.burn.1 = 0) (hC : M.C.length ≤ 100000) :
    Calls Try.prog 87 #[.pointer (some ⟨d, 0, none⟩)] w fun e w' => e = .returned (.int .i64 0) ∧ Dev w' F d { M.burn.2 with L := app M.L M.C, C := [] } ∧ Turn F w w' := by
  have hburn := burn_any d w F M h
  rw [h0] at hburn
  obtain ⟨e1, e2, e3⟩ := M.burn_L
  rw [← e3, ← e1]
  rw [← e3] at hC
  obtain ⟨N, hN⟩ : ∃ N, N = M.burn.2 := ⟨_, rfl⟩
  rw [← hN] at hburn hC ⊢
  clear hN e1 e2 e3 h h0
  go_enter Try.func87, Try.ntmps87
  go_wp2_with fail
  refine hburn.mono ?_
  rintro e w1 ⟨rfl, hD, hT⟩
  clear hburn
  have hok := hD.1
  obtain ⟨gl, cl, gs, cs, ca, cc, hV, hF, hcs, hcl⟩ := hD.open
  have b2 := cell_blk hV.blk 2
  simp only [List.getElem?_toArray] at b2
  have HT : Hid (Turn F w w1) := hT
  have HD : Hid (Dev w1 F d N) := hD
  have HV := (show Hid (DevV w1 d (.slice (some ⟨gl, 0, none⟩) N.L.length cl) (.slice (some ⟨gs, 0, none⟩) N.S.length cs) (.slice ca N.C.length cc) N) from hV)
  have HF := (show Hid _ from hF)
  clear hT hD hV hF
  go_wp2
  go_loopw [16] (fun i wr => ∃ k : Nat, k ≤ N.C.length ∧ i = .int .i64 k ∧ DevV wr d (.slice (some ⟨gl, 0, none⟩) N.L.length cl) (.slice (some ⟨gs, 0, none⟩) N.S.length cs) (.slice ca N.C.length cc) { N with L := app N.L (N.C.take k) } ∧ Turn F w1 wr)
    (fun i _ => N.C.length - (intOf i).toNat)
  case atStart => exact ⟨0, Nat.zero_le _, rfl, HV.out, Turn.refl _ _⟩
  case round =>
    obtain ⟨k, hk, rfl, hV, hT⟩ := hrel
    clear b2
    by_cases hlt : k < N.C.length
    · obtain ⟨gc, cc', hce, hcc, _, _⟩ := owns_head hV.cr (by show 0 < N.C.length; omega)
      simp only [Value.slice.injEq] at hce
      obtain ⟨rfl, _, rfl⟩ := hce
      have ha := owns_cell hV.cr (ccs_get hlt).1
      have hb := owns_cell hV.cr (ccs_get hlt).2
      obtain ⟨s, b, hp⟩ : ∃ s b, N.C[k] = (s, b) := ⟨_, _, rfl⟩
      simp only [hp] at ha hb
      have hlL : (app N.L (N.C.take k)).length = N.L.length := app_length _ _
      have hsec : s < N.L.length := hok.sec (s, b) (by rw [← hp]; exact List.getElem_mem _)
      have hlr := hV.lr
      simp only [hlL] at hlr
      obtain ⟨ot, hl⟩ : ∃ ot, wr.cell? ⟨gl, s, none⟩ = some (.string ot) := ⟨_, owns_cell hlr (scs_get (l := app N.L (N.C.take k)) (j := s) (by rw [hlL]; exact hsec))⟩
      have hfl := owns_frozen hlr s
      have b0 := cell_blk hV.blk 0
      simp only [List.getElem?_toArray] at b0
      have hki : (k : Int) < (N.C.length : Int) := by omega
      have hpi : (s : Int) < (N.L.length : Int) := by omega
      have HV2 := (show Hid _ from hV)
      have HP := (show Hid _ from hp)
      have HSEC := (show Hid _ from hsec)
      clear hV hp hsec hlL hlr HV HD HT
      obtain ⟨W, hW⟩ : ∃ W, W = wr.alloc (.cells #[.int .i64 (s : Int), .string b] 104) := ⟨_, rfl⟩
      have hn := heap_alloc_new wr (.cells #[.int .i64 (s : Int), .string b] 104)
      rw [← hW] at hn
      have n0 := cell_blk hn 0
      have n1 := cell_blk hn 1
      simp only [List.getElem?_toArray] at n0 n1
      have x0 : W.cell? ⟨d, 0, none⟩ = some (.slice (some ⟨gl, 0, none⟩) N.L.length cl) := by rw [hW]; exact Lib.cell?_alloc_some _ b0
      have x1 : W.cell? ⟨gl, s, none⟩ = some (.string ot) := by rw [hW]; exact Lib.cell?_alloc_some _ hl
      have x2 : W.frozen? ⟨gl, s, none⟩ = false := by
        rw [hW, World.frozen?_of_block (w := wr) (a := ⟨gl, s, none⟩) (Below.heap_alloc _ _ _ (World.block_lt_of_cell? _ _ hl))]
        exact hfl
      go_wp2
      rw [← hW]
      have HW := (show Hid (W = wr.alloc (.cells #[.int .i64 (s : Int), .string b] 104)) from hW)
      clear hl hfl b0 hn ha hb hW
      go_region
      go_wp2
      go_roundw
      case rel =>
        have hV := HV2.out
        have hlL : (app N.L (N.C.take k)).length = N.L.length := app_length _ _
        have hFl : F gl := HF.out gl (.inr (.inl rfl))
        refine ⟨k + 1, by omega, by go_num, ?_, ?_⟩
        · have := DevV.setL (w' := (W.setCell ⟨gl, s, none⟩ (.string b)).drew) (i := s) (b := b) hV hlL (by rw [HW.out]; exact alloc_set _ _)
          rw [app_take hlt, HP.out]
          exact this
        · rw [HW.out]
          exact ((hT.alloc _).setCell hFl _).drew
      case measure => simp [intOf]; omega
    · obtain rfl : k = N.C.length := by omega
      have b2 := cell_blk hV.blk 2
      have f2 := frozen_blk hV.blk 2
      simp only [List.getElem?_toArray] at b2
      rw [List.take_length] at hV
      have HV2 := (show Hid _ from hV)
      clear hV HV
      go_wp2
      go_ret
      have hV := HV2.out
      refine ⟨rfl, ⟨⟨?_, ?_, ?_, by intro p hp; simp at hp, hok.st, hok.k0, hok.k1⟩, ?_, .slice (some ⟨gl, 0, none⟩) N.L.length cl, .slice (some ⟨gs, 0, none⟩) N.S.length cs, .slice none 0 0, ⟨?_, ?_, ?_, ?_, ?_, ?_, ?_⟩, ?_⟩, ?_⟩
      · show N.S.length = (app N.L N.C).length
        rw [app_length]
        exact hok.len
      · show 0 < (app N.L N.C).length
        rw [app_length]
        exact hok.pos
      · show (app N.L N.C).length ≤ 4096
        rw [app_length]
        exact hok.top
      · intro k hk
        have := HD.out.2.1 k hk
        have := hT.size
        simp [World.setCell]
        omega
      · rw [set_blk hV.blk 2 _]
        rfl
      · exact owns_setCell hV.lr (fun e => (hV.dl d e).1 rfl) _
      · exact owns_setCell hV.sr (fun e => (hV.ds d e).1 rfl) _
      · exact World.ownsRow_nil _ 0 104 2
      · exact fun g hg => ⟨(hV.dl g hg).1, (hV.dl g hg).2.1, by simp [Value.ownBlock]⟩
      · exact fun g hg => ⟨(hV.ds g hg).1, by simp [Value.ownBlock]⟩
      · exact fun g hg => by simp [Value.ownBlock] at hg
      · intro k hk
        rcases hk with hk | hk | hk | hk
        · exact HF.out k (.inl hk)
        · exact HF.out k (.inr (.inl hk))
        · exact HF.out k (.inr (.inr (.inl hk)))
        · simp [Value.ownBlock] at hk
      · exact HT.out.trans' (hT.setCell (HF.out d (.inl rfl)) _)

set_option maxHeartbeats 2000000 in
theorem flush_burnt (d : Nat) (w : World) (F : Nat → Prop) (M : D) (h : Dev w F d M) (h50 : M.burn.1 = 50) :
    Calls Try.prog 87 #[.pointer (some ⟨d, 0, none⟩)] w fun e w' => e = .returned (.int .i64 50) ∧ Dev w' F d M.burn.2 ∧ Turn F w w' := by
  have hburn := burn_any d w F M h
  rw [h50] at hburn
  clear h h50
  go_enter Try.func87, Try.ntmps87
  go_wp2_with fail
  refine hburn.mono ?_
  rintro e w1 ⟨rfl, hD, hT⟩
  go_wp2
  go_ret
  exact ⟨rfl, hD, hT⟩

theorem flush_any (d : Nat) (w : World) (F : Nat → Prop) (M : D) (h : Dev w F d M) (hC : M.C.length ≤ 100000) :
    Calls Try.prog 87 #[.pointer (some ⟨d, 0, none⟩)] w fun e w' => e = .returned (.int .i64 M.flush.1) ∧ Dev w' F d M.flush.2 ∧ Turn F w w' := by
  have h2 : M.burn.1 = 0 ∨ M.burn.1 = 50 := by
    unfold D.burn
    split
    · exact .inl rfl
    · split
      · exact .inl rfl
      · exact .inr rfl
  rcases h2 with h0 | h50
  · have e : M.flush = (0, { M.burn.2 with L := app M.L M.C, C := [] }) := by rw [D.flush, if_neg (by omega)]
    rw [e]
    exact flush_go d w F M h h0 hC
  · have e : M.flush = M.burn := by rw [D.flush, if_pos (by omega)]
    rw [e, h50]
    exact flush_burnt d w F M h h50
end Go.Proofs.Ytecljiefljgfmaa
/-
  slices.Clone of texts and of waiting writes by their contracts.
-/
namespace Go.Proofs.Ytecljiefljgfmaa
open Go.RowKit

set_option maxHeartbeats 2000000 in
set_option maxRecDepth 100000 in
theorem cloneS_any (g n cap : Nat) (xs : List ByteArray) (w : World) (h : w.ownsRow 0 9 1 (.slice (some ⟨g, 0, none⟩) n cap) n (scs xs)) (hn : n ≤ 4096) :
    Calls Try.prog 39 #[.slice (some ⟨g, 0, none⟩) n cap] w fun e w' => ∃ v', e = .returned v' ∧ w'.ownsRow w.heap.size 9 1 v' n (scs xs) ∧ Below w.heap.size w w' := by
  obtain ⟨i0, hi, hz0, hz1, hz2⟩ := info_parts info9
  have q47 : ∀ (w : World) (a : Option Addr) (n c n' c' : Nat), (binOp .eql 40 (.slice a n c) (.slice none n' c')).run Try.prog w = .ok (.bool a.isNone) w := fun w a n c n' c' => Lib.run_eql_slice_nil w _ _ a n c n' c' Try.underlying40
  have H : Hid (w.ownsRow 0 9 1 (.slice (some ⟨g, 0, none⟩) n cap) n (scs xs)) := h
  clear h
  go_enter Try.func39, Try.ntmps39
  go_wp2_with (at_builtin; refine wpList_append_own _ rfl _ _ 40 rfl w.heap.size 9 i0 (.string ⟨#[]⟩) 1 16 Try.underlying40 hi hz0 hz1 hz2 rfl (by decide) _ _ _ rfl (World.ownsRow_made w #[] 0 (Nat.le_refl _) (Nat.zero_le _) rfl) ⟨g, 0, none⟩ n cap (scs xs) rfl ?qc1 ?qc2 ?qc3 ?qc4 ?qc5 ?qc6 ?_)
  case qc1 => exact H.out.1
  case qc2 => intro j u hj; exact (H.out.alloc _).cells (g := g) rfl j u hj
  case qc3 => exact scs_one xs
  case qc4 => unfold maxLen; omega
  case qc5 => omega
  case qc6 => simp
  intro v' w1 hown hgrow hnil
  go_wp2
  go_ret
  refine ⟨v', rfl, by simpa using hown, ?_⟩
  exact ((Below.refl _ w).alloc (Nat.le_refl _) _).grown hgrow (by simp) (by intro k hk; simp [Value.ownBlock] at hk; omega)

end Go.Proofs.Ytecljiefljgfmaa
