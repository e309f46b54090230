/-
  Size, Pending, Dead, has, Fuse and burn by their contracts.
-/
import Derived.Test.YtpmjkgpmidejoaaModel
namespace Go.Proofs.Ytpmjkgpmidejoaa
open Go.RowKit

/-- What a walk reads of a device. -/
theorem Dev.open {w : World} {F : Nat → Prop} {d : Nat} {M : D} (h : Dev w F d M) : ∃ gl cl gs cs ca cc, DevV w d (.slice (some ⟨gl, 0, none⟩) M.L.length cl) (.slice (some ⟨gs, 0, none⟩) M.S.length cs) (.slice ca M.C.length cc) M ∧ (∀ k, Foot d (.slice (some ⟨gl, 0, none⟩) M.L.length cl) (.slice (some ⟨gs, 0, none⟩) M.S.length cs) (.slice ca M.C.length cc) k → F k) ∧ M.S.length ≤ cs ∧ M.L.length ≤ cl := by
  obtain ⟨h0, h1, lv, sv, cv, h2, h3⟩ := h
  obtain ⟨gl, cl, rfl, hcl, _⟩ := owns_head h2.lr h0.pos
  obtain ⟨gs, cs, rfl, hcs, _⟩ := owns_head h2.sr (by rw [h0.len]; exact h0.pos)
  have : ∃ ca cc, cv = .slice ca M.C.length cc := by
    obtain ⟨_, ⟨rfl, hn⟩ | ⟨g, cap, cur, rfl, _⟩⟩ := h2.cr
    · exact ⟨none, 0, by rw [hn]⟩
    · exact ⟨_, _, rfl⟩
  obtain ⟨ca, cc, rfl⟩ := this
  exact ⟨gl, cl, gs, cs, ca, cc, h2, h3, hcs, hcl⟩

theorem ret_bool {p q : Bool} (g : p = q) : Ending.returned (.bool p) = .returned (.bool q) := by rw [g]
theorem ret_int {k : IntKind} {a b : Int} (h : a = b) : Ending.returned (.int k a) = .returned (.int k b) := by rw [h]

theorem size_any (d : Nat) (w : World) (F : Nat → Prop) (M : D) (h : Dev w F d M) :
    Calls Try.prog 66 #[.pointer (some ⟨d, 0, none⟩)] w fun e w' => e = .returned (.int .i64 (M.L.length : Int)) ∧ w = w' := by
  have hlen := h.1.len
  obtain ⟨gl, cl, gs, cs, ca, cc, hV, _⟩ := h.open
  have c1 := cell_blk hV.blk 1
  simp only [List.getElem?_toArray] at c1
  rw [← hlen]
  clear hV hlen h
  go_enter Try.func66, Try.ntmps66
  go_wp2
  go_ret
  exact ⟨rfl, rfl⟩

theorem pending_any (d : Nat) (w : World) (F : Nat → Prop) (M : D) (h : Dev w F d M) :
    Calls Try.prog 59 #[.pointer (some ⟨d, 0, none⟩)] w fun e w' => e = .returned (.int .i64 (M.C.length : Int)) ∧ w = w' := by
  obtain ⟨gl, cl, gs, cs, ca, cc, hV, _⟩ := h.open
  have c1 := cell_blk hV.blk 2
  simp only [List.getElem?_toArray] at c1
  clear hV h
  go_enter Try.func59, Try.ntmps59
  go_wp2
  go_ret
  exact ⟨rfl, rfl⟩

theorem has_any (d : Nat) (i : Int) (w : World) (F : Nat → Prop) (M : D) (h : Dev w F d M) :
    Calls Try.prog 55 #[.pointer (some ⟨d, 0, none⟩), .int .i64 i] w fun e w' => e = .returned (.bool (decide (0 ≤ i ∧ i < (M.S.length : Int)))) ∧ w = w' := by
  obtain ⟨gl, cl, gs, cs, ca, cc, hV, _⟩ := h.open
  have c1 := cell_blk hV.blk 1
  simp only [List.getElem?_toArray] at c1
  clear hV h
  go_enter Try.func55, Try.ntmps55
  go_wp2
  all_goals (go_ret; exact ⟨ret_bool (by rw [Bool.eq_iff_iff]; simp; try omega), rfl⟩)

theorem DevV.setD {w w' : World} {d : Nat} {lv sv cv : Value} {M : D} (h : DevV w d lv sv cv M) (st' : Nat) (k' : Int) (hb : w'.heap[d]? = some (.cells #[lv, sv, cv, .int .i64 (st' : Int), .int .i64 k'] 82 (0, 0))) (ho : ∀ k, k ≠ d → w'.heap[k]? = w.heap[k]?) : DevV w' d lv sv cv { M with st := st', k := k' } :=
  ⟨hb, owns_other h.lr fun j hj => ho j (h.dl j hj).1, owns_other h.sr fun j hj => ho j (h.ds j hj).1, owns_other h.cr fun j hj => ho j (h.dc j hj), h.dl, h.ds, h.dc⟩
theorem Dev.setD {w w' : World} {F : Nat → Prop} {d : Nat} {lv sv cv : Value} {M M' : D} (h : DevV w d lv sv cv M) (hF : ∀ k, Foot d lv sv cv k → F k) (hl : ∀ k, F k → k < w.heap.size) (st' : Nat) (k' : Int) (hok : M'.Ok) (hM : M' = { M with st := st', k := k' }) (hb : w'.heap[d]? = some (.cells #[lv, sv, cv, .int .i64 (st' : Int), .int .i64 k'] 82 (0, 0))) (hT : Turn (fun k => k = d) w w') (ho : ∀ k, k ≠ d → w'.heap[k]? = w.heap[k]?) : Dev w' F d M' ∧ Turn F w w' := by
  subst hM
  exact ⟨⟨hok, fun k hk => Nat.lt_of_lt_of_le (hl k hk) hT.size, lv, sv, cv, h.setD st' k' hb ho, hF⟩, hT.mono fun k hk => hF k (.inl hk)⟩

set_option maxHeartbeats 1000000 in
theorem burn_any (d : Nat) (w : World) (F : Nat → Prop) (M : D) (h : Dev w F d M) :
    Calls Try.prog 56 #[.pointer (some ⟨d, 0, none⟩)] w fun e w' => e = .returned (.int .i64 M.burn.1) ∧ Dev w' F d M.burn.2 ∧ Turn F w w' := by
  obtain ⟨gl, cl, gs, cs, ca, cc, hV, hF, _, _⟩ := h.open
  have c3 := cell_blk hV.blk 3
  have c4 := cell_blk hV.blk 4
  have f3 := frozen_blk hV.blk 3
  have f4 := frozen_blk hV.blk 4
  simp only [List.getElem?_toArray] at c3 c4
  have hk0 := h.1.k0
  have hk1 := h.1.k1
  have hst := h.1.st
  have HV := (show Hid _ from hV)
  have HF := (show Hid _ from hF)
  have HD : Hid (Dev w F d M) := h
  clear hV hF h
  rcases (by omega : M.st = 0 ∨ M.st = 1 ∨ M.st = 2) with hs | hs | hs
  · have e : M.burn = (0, M) := by simp [D.burn, hs]
    rw [hs] at c3
    rw [e]
    go_enter Try.func56, Try.ntmps56
    go_wp2
    go_ret
    exact ⟨rfl, HD.out, Turn.refl _ _⟩
  · rw [hs] at c3
    have HS : Hid (M.st = 1) := hs
    clear hs
    by_cases hk : 0 < M.k
    · have e : M.burn = (0, { M with k := M.k - 1 }) := by simp [D.burn, HS.out, hk]
      have hok : ({ M with k := M.k - 1 } : D).Ok := by have := HD.out.1.burn; rw [e] at this; exact this
      rw [e]
      go_enter Try.func56, Try.ntmps56
      go_wp2
      go_ret
      refine ⟨rfl, Dev.setD HV.out HF.out HD.out.2.1 1 (M.k - 1) hok ?_ (set_blk HV.out.blk 4 _ |>.trans ?_) ((Turn.refl (fun k => k = d) _).setCell (by rfl) _) (fun k hk => Below.heap_setCell _ _ _ _ hk)⟩
      · rw [← HS.out]
      · rw [HS.out]
        rfl
    · have e : M.burn = (50, { M with st := 2 }) := by simp [D.burn, HS.out, hk]
      have hok : ({ M with st := 2 } : D).Ok := by have := HD.out.1.burn; rw [e] at this; exact this
      rw [e]
      go_enter Try.func56, Try.ntmps56
      go_wp2
      go_ret
      refine ⟨rfl, Dev.setD HV.out HF.out HD.out.2.1 2 M.k hok rfl (set_blk HV.out.blk 3 _ |>.trans ?_) ((Turn.refl (fun k => k = d) _).setCell (by rfl) _) (fun k hk => Below.heap_setCell _ _ _ _ hk)⟩
      rfl
  · have e : M.burn = (50, M) := by simp only [D.burn, hs]; simp; rw [← hs]
    rw [hs] at c3
    rw [e]
    go_enter Try.func56, Try.ntmps56
    go_wp2
    go_ret
    exact ⟨rfl, HD.out, Turn.refl _ _⟩

set_option maxHeartbeats 1000000 in
theorem fuse_any (d : Nat) (q : Int) (w : World) (F : Nat → Prop) (M : D) (h : Dev w F d M) (hq : q ≤ 9223372036854775807) :
    Calls Try.prog 21 #[.pointer (some ⟨d, 0, none⟩), .int .i64 q] w fun e w' => e = .returned (.tuple #[]) ∧ Dev w' F d (M.fuse q) ∧ Turn F w w' := by
  obtain ⟨gl, cl, gs, cs, ca, cc, hV, hF, _, _⟩ := h.open
  have c3 := cell_blk hV.blk 3
  have c4 := cell_blk hV.blk 4
  have f3 := frozen_blk hV.blk 3
  have f4 := frozen_blk hV.blk 4
  simp only [List.getElem?_toArray] at c3 c4
  have hok := h.1.fuse q hq
  have HV := (show Hid _ from hV)
  have HF := (show Hid _ from hF)
  have HD : Hid (Dev w F d M) := h
  clear hV hF h
  by_cases hs : M.st = 2
  · have e : M.fuse q = M := by simp [D.fuse, hs]
    rw [hs] at c3
    rw [e]
    go_enter Try.func21, Try.ntmps21
    go_wp2
    refine bodyPost_end (results_none rfl _ _ _) rfl ?_
    exact ⟨rfl, HD.out, Turn.refl _ _⟩
  · have hs' : ((M.st : Int) == 2) = false := by simp; omega
    by_cases hk : q < 0
    · have e : M.fuse q = { M with st := 0, k := 0 } := by simp [D.fuse, hs, hk]
      rw [e] at hok ⊢
      clear hs
      go_enter Try.func21, Try.ntmps21
      go_wp2
      refine bodyPost_end (results_none rfl _ _ _) rfl ?_
      refine ⟨rfl, Dev.setD HV.out HF.out HD.out.2.1 0 0 hok rfl (set_blk (set_blk HV.out.blk 3 _) 4 _ |>.trans ?_) (((Turn.refl (fun k => k = d) _).setCell (by rfl) _).setCell (by rfl) _) (fun k hk => (Below.heap_setCell _ _ _ _ hk).trans (Below.heap_setCell _ _ _ _ hk))⟩
      rfl
    · have e : M.fuse q = { M with st := 1, k := q } := by simp [D.fuse, hs, hk]
      rw [e] at hok ⊢
      clear hs
      go_enter Try.func21, Try.ntmps21
      go_wp2
      refine bodyPost_end (results_none rfl _ _ _) rfl ?_
      refine ⟨rfl, Dev.setD HV.out HF.out HD.out.2.1 1 q hok rfl (set_blk (set_blk HV.out.blk 3 _) 4 _ |>.trans ?_) (((Turn.refl (fun k => k = d) _).setCell (by rfl) _).setCell (by rfl) _) (fun k hk => (Below.heap_setCell _ _ _ _ hk).trans (Below.heap_setCell _ _ _ _ hk))⟩
      rfl
end Go.Proofs.Ytpmjkgpmidejoaa
