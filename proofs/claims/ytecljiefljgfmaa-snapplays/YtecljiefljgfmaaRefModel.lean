/-
  The document's device told by plain lists, and how it lies in memory.
-/
import Derived.Test.YtecljiefljgfmaaLeaf
namespace Go.Proofs.Ytecljiefljgfmaa
open Go.RowKit

theorem info106 : (Try.prog.info? 106).map (fun i => (i.zero, i.size, i.bytes)) = some (some (.agg #[.int .i64 0, .string ⟨#[]⟩]), 2, 24) := by kernel_rfl

structure R where
  L : List ByteArray
  W : List (Nat × ByteArray)
  f : Int
  dead : Bool

def R.burn (M : R) : Int × R := if M.f = 0 then (50, { M with dead := true }) else if 0 < M.f then (0, { M with f := M.f - 1 }) else (0, M)
def R.wr (M : R) (i : Int) (b : ByteArray) : Int × R :=
  if M.dead = true then (50, M)
  else if ¬ (0 ≤ i ∧ i < (M.L.length : Int) ∧ b.size = 256) then (1, M)
  else if M.burn.1 ≠ 0 then M.burn
  else (0, { M.burn.2 with W := M.W ++ [(i.toNat, b)] })
def R.flush (M : R) : Int × R := if M.dead = true then (50, M) else if M.burn.1 ≠ 0 then M.burn else (0, { M.burn.2 with L := app M.L M.W, W := [] })
def R.crash (M : R) (keep : List Bool) : R := { L := app M.L (kept keep M.W), W := [], f := -1, dead := false }
def R.new (n : Nat) (b : ByteArray) : R := { L := List.replicate n b, W := [], f := -1, dead := false }
def R.fuse (M : R) (k : Int) : R := { M with f := max k (-1) }

structure R.Ok (M : R) : Prop where
  pos : 0 < M.L.length
  top : M.L.length ≤ 4096
  sec : ∀ p ∈ M.W, p.1 < M.L.length
  f0 : -1 ≤ M.f
  f1 : M.f ≤ 9223372036854775807

theorem R.burn_L (M : R) : M.burn.2.L = M.L ∧ M.burn.2.W = M.W := by
  unfold R.burn
  split
  · exact ⟨rfl, rfl⟩
  · split <;> exact ⟨rfl, rfl⟩
theorem R.burn_two (M : R) : M.burn.1 = 0 ∨ M.burn.1 = 50 := by
  unfold R.burn
  split
  · exact .inr rfl
  · split <;> exact .inl rfl
theorem R.Ok.burn {M : R} (h : M.Ok) : M.burn.2.Ok := by
  have h0 := h.f0
  have h1 := h.f1
  unfold R.burn
  split
  · exact ⟨h.pos, h.top, h.sec, h.f0, h.f1⟩
  · split
    · exact ⟨h.pos, h.top, h.sec, by show -1 ≤ M.f - 1; omega, by show M.f - 1 ≤ _; omega⟩
    · exact h
theorem R.Ok.wr {M : R} (h : M.Ok) (i : Int) (b : ByteArray) : (M.wr i b).2.Ok := by
  unfold R.wr
  split
  · exact h
  · split
    · exact h
    · split
      · exact h.burn
      · rename_i h1 h2 h3
        have hb := h.burn
        obtain ⟨e1, e2⟩ := M.burn_L
        have hi : 0 ≤ i ∧ i < (M.L.length : Int) ∧ b.size = 256 := Classical.byContradiction h2
        refine ⟨hb.pos, hb.top, ?_, hb.f0, hb.f1⟩
        show ∀ p ∈ M.W ++ [(i.toNat, b)], p.1 < M.burn.2.L.length
        rw [e1]
        intro p hp
        rw [List.mem_append] at hp
        rcases hp with hp | hp
        · exact h.sec p hp
        · simp only [List.mem_singleton] at hp
          subst hp
          show i.toNat < M.L.length
          omega
theorem R.Ok.flush {M : R} (h : M.Ok) : M.flush.2.Ok := by
  unfold R.flush
  split
  · exact h
  · split
    · exact h.burn
    · have hb := h.burn
      refine ⟨?_, ?_, by intro p hp; simp at hp, hb.f0, hb.f1⟩
      · show 0 < (app M.L M.W).length
        rw [app_length]
        exact h.pos
      · show (app M.L M.W).length ≤ 4096
        rw [app_length]
        exact h.top
theorem R.Ok.crash {M : R} (h : M.Ok) (keep : List Bool) : (M.crash keep).Ok := by
  refine ⟨?_, ?_, by intro p hp; simp [R.crash] at hp, by simp [R.crash], by simp [R.crash]⟩
  · show 0 < (app _ _).length
    rw [app_length]
    exact h.pos
  · show (app _ _).length ≤ 4096
    rw [app_length]
    exact h.top
theorem R.Ok.fuse {M : R} (h : M.Ok) (k : Int) (hk : k ≤ 9223372036854775807) : (M.fuse k).Ok :=
  ⟨h.pos, h.top, h.sec, by show -1 ≤ max k (-1); omega, by show max k (-1) ≤ _; omega⟩
theorem R.Ok.new {n : Nat} (h0 : 0 < n) (h1 : n ≤ 4096) (b : ByteArray) : (R.new n b).Ok :=
  ⟨by simpa [R.new] using h0, by simpa [R.new] using h1, by intro p hp; simp [R.new] at hp, by simp [R.new], by simp [R.new]⟩

/-- How it lies in memory. -/
structure RV (w : World) (d : Nat) (lv wv : Value) (M : R) : Prop where
  blk : w.heap[d]? = some (.cells #[lv, wv, .int .i64 M.f, .bool M.dead] 49 (0, 0))
  lr : w.ownsRow 0 9 1 lv M.L.length (scs M.L)
  wr : w.ownsRow 0 106 2 wv M.W.length (ccs M.W)
  dl : ∀ g, lv.ownBlock = some g → g ≠ d ∧ wv.ownBlock ≠ some g
  dw : ∀ g, wv.ownBlock = some g → g ≠ d

def RFoot (d : Nat) (lv wv : Value) (k : Nat) : Prop := k = d ∨ lv.ownBlock = some k ∨ wv.ownBlock = some k

/-- The document's device, all of whose blocks lie in F. -/
def RDev (w : World) (F : Nat → Prop) (d : Nat) (M : R) : Prop :=
  M.Ok ∧ (∀ k, F k → k < w.heap.size) ∧ ∃ lv wv, RV w d lv wv M ∧ ∀ k, RFoot d lv wv k → F k

theorem RV.other {w w' : World} {d : Nat} {lv wv : Value} {M : R} (h : RV w d lv wv M) (hh : ∀ k, RFoot d lv wv k → w'.heap[k]? = w.heap[k]?) : RV w' d lv wv M :=
  ⟨(hh d (.inl rfl)).trans h.blk, owns_other h.lr fun j hj => hh j (.inr (.inl hj)), owns_other h.wr fun j hj => hh j (.inr (.inr hj)), h.dl, h.dw⟩
theorem RV.kept {w w' : World} {d : Nat} {lv wv : Value} {M : R} (h : RV w d lv wv M) (hw : ∀ k, k < w.heap.size → w'.heap[k]? = w.heap[k]?) : RV w' d lv wv M := by
  refine h.other fun k hk => hw k ?_
  rcases hk with hk | hk | hk
  · rw [hk]; exact (Array.getElem?_eq_some_iff.1 h.blk).1
  · exact (World.ownsRow.lt h.lr k hk).2
  · exact (World.ownsRow.lt h.wr k hk).2
theorem RDev.other {w w' : World} {F G : Nat → Prop} {d : Nat} {M : R} (h : RDev w F d M) (ht : Turn G w w') (hd : ∀ k, F k → ¬ G k) : RDev w' F d M := by
  obtain ⟨h0, h1, lv, wv, h2, h3⟩ := h
  exact ⟨h0, fun k hk => by have := h1 k hk; have := ht.size; omega, lv, wv, h2.other fun k hk => ht.block k (h1 k (h3 k hk)) (hd k (h3 k hk)), h3⟩
theorem RDev.below {w w' : World} {F : Nat → Prop} {d : Nat} {M : R} (h : RDev w F d M) (hb : Below w.heap.size w w') : RDev w' F d M :=
  h.other (G := fun _ => False) (Turn.of_below hb) (fun _ _ h => h)
theorem RDev.lt {w : World} {F : Nat → Prop} {d : Nat} {M : R} (h : RDev w F d M) : d < w.heap.size := by
  obtain ⟨_, h1, lv, wv, _, h3⟩ := h
  exact h1 d (h3 d (.inl rfl))
theorem RDev.grow {w w' : World} {F : Nat → Prop} {d : Nat} {M : R} (h : RDev w' F d M) : RDev w' (Grow F w w') d M := by
  obtain ⟨h0, h1, lv, wv, h2, h3⟩ := h
  refine ⟨h0, ?_, lv, wv, h2, fun k hk => .inl (h3 k hk)⟩
  intro k hk
  rcases hk with hk | hk
  · exact h1 k hk
  · exact hk.2

/-- What a walk reads of it. -/
theorem RDev.open {w : World} {F : Nat → Prop} {d : Nat} {M : R} (h : RDev w F d M) : ∃ gl cl ca cc, RV w d (.slice (some ⟨gl, 0, none⟩) M.L.length cl) (.slice ca M.W.length cc) M ∧ (∀ k, RFoot d (.slice (some ⟨gl, 0, none⟩) M.L.length cl) (.slice ca M.W.length cc) k → F k) ∧ M.L.length ≤ cl := by
  obtain ⟨h0, h1, lv, wv, h2, h3⟩ := h
  obtain ⟨gl, cl, rfl, hcl, _⟩ := owns_head h2.lr h0.pos
  have : ∃ ca cc, wv = .slice ca M.W.length cc := by
    obtain ⟨_, ⟨rfl, hn⟩ | ⟨g, cap, cur, rfl, _⟩⟩ := h2.wr
    · exact ⟨none, 0, by rw [hn]⟩
    · exact ⟨_, _, rfl⟩
  obtain ⟨ca, cc, rfl⟩ := this
  exact ⟨gl, cl, ca, cc, h2, h3, hcl⟩

theorem RDev.setR {w w' : World} {F : Nat → Prop} {d : Nat} {lv wv : Value} {M M' : R} (h : RV w d lv wv M) (hF : ∀ k, RFoot d lv wv k → F k) (hl : ∀ k, F k → k < w.heap.size) (f' : Int) (b' : Bool) (hok : M'.Ok) (hM : M' = { M with f := f', dead := b' }) (hb : w'.heap[d]? = some (.cells #[lv, wv, .int .i64 f', .bool b'] 49 (0, 0))) (hT : Turn (fun k => k = d) w w') (ho : ∀ k, k ≠ d → w'.heap[k]? = w.heap[k]?) : RDev w' F d M' ∧ Turn F w w' := by
  subst hM
  exact ⟨⟨hok, fun k hk => Nat.lt_of_lt_of_le (hl k hk) hT.size, lv, wv, ⟨hb, owns_other h.lr fun j hj => ho j (h.dl j hj).1, owns_other h.wr fun j hj => ho j (h.dw j hj), h.dl, h.dw⟩, hF⟩, hT.mono fun k hk => hF k (.inl hk)⟩

/-- The law sets the fuse itself. -/
theorem RDev.fuse {w : World} {F : Nat → Prop} {d : Nat} {M : R} (h : RDev w F d M) (k : Int) (hk : k ≤ 9223372036854775807) : RDev (w.setCell ⟨d, 2, none⟩ (.int .i64 (max k (-1)))) F d (M.fuse k) ∧ Turn F w (w.setCell ⟨d, 2, none⟩ (.int .i64 (max k (-1)))) := by
  obtain ⟨gl, cl, ca, cc, hV, hF, _⟩ := h.open
  exact RDev.setR hV hF h.2.1 (max k (-1)) M.dead (h.1.fuse k hk) rfl ((set_blk hV.blk 2 _).trans rfl) ((Turn.refl (fun k => k = d) _).setCell (by rfl) _) (fun k hk => Below.heap_setCell _ _ _ _ hk)

set_option maxHeartbeats 1000000 in
theorem refburn_any (d : Nat) (w : World) (F : Nat → Prop) (M : R) (h : RDev w F d M) :
    Calls Try.prog 57 #[.pointer (some ⟨d, 0, none⟩)] w fun e w' => e = .returned (.int .i64 M.burn.1) ∧ RDev w' F d M.burn.2 ∧ Turn F w w' := by
  obtain ⟨gl, cl, ca, cc, hV, hF, _⟩ := h.open
  have c2 := cell_blk hV.blk 2
  have c3 := cell_blk hV.blk 3
  have f2 := frozen_blk hV.blk 2
  have f3 := frozen_blk hV.blk 3
  simp only [List.getElem?_toArray] at c2 c3
  have hk0 := h.1.f0
  have hk1 := h.1.f1
  have HV := (show Hid _ from hV)
  have HF := (show Hid _ from hF)
  have HD : Hid (RDev w F d M) := h
  clear hV hF h
  rcases (by omega : M.f = 0 ∨ 0 < M.f ∨ M.f < 0) with hs | hs | hs
  · have e : M.burn = (50, { M with dead := true }) := by simp [R.burn, hs]
    have hok : ({ M with dead := true } : R).Ok := by have := HD.out.1.burn; rw [e] at this; exact this
    rw [hs] at c2
    rw [e]
    have HS : Hid (M.f = 0) := hs
    clear hs hk0 hk1
    go_enter Try.func57, Try.ntmps57
    go_wp2
    go_ret
    exact ⟨rfl, RDev.setR HV.out HF.out HD.out.2.1 M.f true hok rfl ((set_blk HV.out.blk 3 _).trans rfl) ((Turn.refl (fun k => k = d) _).setCell (by rfl) _) (fun k hk => Below.heap_setCell _ _ _ _ hk)⟩
  · have e : M.burn = (0, { M with f := M.f - 1 }) := by simp [R.burn, hs]; omega
    have hok : ({ M with f := M.f - 1 } : R).Ok := by have := HD.out.1.burn; rw [e] at this; exact this
    rw [e]
    have hs0 : (M.f == 0) = false := by rw [beq_eq_false_iff_ne]; omega
    go_enter Try.func57, Try.ntmps57
    go_wp2
    go_ret
    exact ⟨rfl, RDev.setR HV.out HF.out HD.out.2.1 (M.f - 1) M.dead hok rfl ((set_blk HV.out.blk 2 _).trans rfl) ((Turn.refl (fun k => k = d) _).setCell (by rfl) _) (fun k hk => Below.heap_setCell _ _ _ _ hk)⟩
  · have e : M.burn = (0, M) := by rw [R.burn, if_neg (by omega), if_neg (by omega)]
    rw [e]
    have hs0 : (M.f == 0) = false := by rw [beq_eq_false_iff_ne]; omega
    have hs1 : ¬ 0 < M.f := by omega
    go_enter Try.func57, Try.ntmps57
    go_wp2
    go_ret
    exact ⟨rfl, HD.out, Turn.refl _ _⟩
end Go.Proofs.Ytecljiefljgfmaa
