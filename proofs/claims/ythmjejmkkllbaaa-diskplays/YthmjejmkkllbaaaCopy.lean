/-
  Copy by its contract.
-/
import Derived.Test.YthmjejmkkllbaaaClone
namespace Go.Proofs.Ythmjejmkkllbaaa
open Go.RowKit

/-- What a call that only lays new blocks leaves: rows of one's own stay. -/
def Keeps (w w' : World) : Prop := ∀ base e size v n xs, w.ownsRow base e size v n xs → w'.ownsRow base e size v n xs
theorem owns_lt {w : World} {base : Nat} {e : TypeId} {size : Nat} {v : Value} {n : Nat} {xs : List Value} (h : w.ownsRow base e size v n xs) : ∀ g, v.ownBlock = some g → base ≤ g ∧ g < w.heap.size := by
  obtain ⟨hl, ⟨rfl, h0⟩ | ⟨g, cap, cur, rfl, hb, hg, hr⟩⟩ := h
  · intro g hg; simp [Value.ownBlock] at hg
  · intro g' hg'
    simp only [Value.ownBlock, Option.some.injEq] at hg'
    subst hg'
    exact ⟨hb, (Array.getElem?_eq_some_iff.1 hg).1⟩
theorem keeps_below {w w' : World} (h : Below w.heap.size w w') : Keeps w w' := fun _ _ _ _ _ _ ho => owns_other ho fun j hj => h.block j ((owns_lt ho j hj).2)

theorem owns_shape {w : World} {base : Nat} {e : TypeId} {size : Nat} {v : Value} {n : Nat} {xs : List Value} (h : w.ownsRow base e size v n xs) : ∃ a c, v = .slice a n c := by
  obtain ⟨hl, ⟨rfl, h0⟩ | ⟨g, cap, cur, rfl, hb, hg, hr⟩⟩ := h
  · exact ⟨none, 0, by rw [h0]⟩
  · exact ⟨_, _, rfl⟩
theorem below_alloc {w q : World} (h : Below w.heap.size w q) (o : Obj) : Below w.heap.size w (q.alloc o) := h.alloc h.size o
/-- What Clone leaves behind it. -/
structure Cl (w0 p q : World) (e : TypeId) (size : Nat) (v : Value) (n : Nat) (xs : List Value) : Prop where
  row : q.ownsRow 0 e size v n xs
  lo : ∀ g, v.ownBlock = some g → p.heap.size ≤ g ∧ g < q.heap.size
  keeps : Keeps p q
  size : p.heap.size ≤ q.heap.size
  old : Below w0.heap.size w0 q

theorem cl_of {w0 p q : World} {e : TypeId} {size : Nat} {v : Value} {n : Nat} {xs : List Value} (h0 : Below w0.heap.size w0 p) (h : q.ownsRow p.heap.size e size v n xs) (hb : Below p.heap.size p q) : Cl w0 p q e size v n xs :=
  ⟨owns_base h fun _ _ => Nat.zero_le _, fun g hg => owns_lt h g hg, keeps_below hb, hb.size, h0.trans (hb.mono h0.size)⟩

theorem copy_end {w W : World} {lv sv cv : Value} {M : D} (hok : M.Ok) (hl : W.ownsRow 0 9 1 lv M.L.length (scs M.L)) (hs : W.ownsRow 0 9 1 sv M.S.length (scs M.S)) (hc : W.ownsRow 0 66 2 cv M.C.length (ccs M.C))
    (bl : ∀ g, lv.ownBlock = some g → w.heap.size ≤ g ∧ g < W.heap.size) (bs : ∀ g, sv.ownBlock = some g → w.heap.size ≤ g ∧ g < W.heap.size) (bc : ∀ g, cv.ownBlock = some g → w.heap.size ≤ g ∧ g < W.heap.size)
    (d1 : ∀ g, lv.ownBlock = some g → sv.ownBlock ≠ some g) (d2 : ∀ g, lv.ownBlock = some g → cv.ownBlock ≠ some g) (d3 : ∀ g, sv.ownBlock = some g → cv.ownBlock ≠ some g)
    (hb : Below w.heap.size w W) :
    Dev (W.alloc (.cells #[lv, sv, cv, .int .i64 (M.st : Int), .int .i64 M.k] 64)) (fun k => w.heap.size ≤ k ∧ k < (W.alloc (.cells #[lv, sv, cv, .int .i64 (M.st : Int), .int .i64 M.k] 64)).heap.size) W.heap.size M ∧ Below w.heap.size w (W.alloc (.cells #[lv, sv, cv, .int .i64 (M.st : Int), .int .i64 M.k] 64)) := by
  have hsz : (W.alloc (.cells #[lv, sv, cv, .int .i64 (M.st : Int), .int .i64 M.k] 64)).heap.size = W.heap.size + 1 := by simp
  have hk : Keeps W (W.alloc (.cells #[lv, sv, cv, .int .i64 (M.st : Int), .int .i64 M.k] 64)) := keeps_below ((Below.refl _ W).alloc (Nat.le_refl _) _)
  have hw := hb.size
  refine ⟨⟨hok, fun k hk => hk.2, lv, sv, cv, ⟨heap_alloc_new W _, hk _ _ _ _ _ _ hl, hk _ _ _ _ _ _ hs, hk _ _ _ _ _ _ hc, ?_, ?_, ?_⟩, ?_⟩, hb.alloc hw _⟩
  · intro g hg
    exact ⟨by have := (bl g hg).2; omega, d1 g hg, d2 g hg⟩
  · intro g hg
    exact ⟨by have := (bs g hg).2; omega, d3 g hg⟩
  · intro g hg
    have := (bc g hg).2
    omega
  · intro k hk
    rw [hsz]
    rcases hk with hk | hk | hk | hk
    · omega
    · have := bl k hk; omega
    · have := bs k hk; omega
    · have := bc k hk; omega

theorem apart_of {p q p' q' : World} {v v' : Value} (h : ∀ g, v.ownBlock = some g → p.heap.size ≤ g ∧ g < q.heap.size) (h' : ∀ g, v'.ownBlock = some g → p'.heap.size ≤ g ∧ g < q'.heap.size) (hs : q.heap.size ≤ p'.heap.size ∨ q'.heap.size ≤ p.heap.size) : ∀ g, v.ownBlock = some g → v'.ownBlock ≠ some g := by
  intro g hg hg'
  have h1 := h g hg
  have h2 := h' g hg'
  omega

set_option maxHeartbeats 4000000 in
set_option maxRecDepth 100000 in
theorem copy_any (d : Nat) (w : World) (F : Nat → Prop) (M : D) (h : Dev w F d M) (hC : M.C.length ≤ 100000) :
    Calls Try.prog 21 #[.pointer (some ⟨d, 0, none⟩)] w fun e w' => ∃ c, e = .returned (.pointer (some ⟨c, 0, none⟩)) ∧ Dev w' (fun k => w.heap.size ≤ k ∧ k < w'.heap.size) c M ∧ Below w.heap.size w w' := by
  have hok := h.1
  have hF := h.2.1
  have hdlt := h.lt
  obtain ⟨gl, cl, gs, cs, ca, cc, hV, hfoot, _⟩ := h.open
  obtain ⟨st, hst⟩ : ∃ st : Int, st = (M.st : Int) := ⟨_, rfl⟩
  obtain ⟨k, hk⟩ : ∃ k : Int, k = M.k := ⟨_, rfl⟩
  have b0 := hV.blk
  rw [← hst, ← hk] at b0
  have c0 : w.cell? ⟨d, 0, none⟩ = some (.slice (some ⟨gl, 0, none⟩) M.L.length cl) := cell_blk b0 0
  have c1 : w.cell? ⟨d, 1, none⟩ = some (.slice (some ⟨gs, 0, none⟩) M.S.length cs) := cell_blk b0 1
  have c2 : w.cell? ⟨d, 2, none⟩ = some (.slice ca M.C.length cc) := cell_blk b0 2
  have c3 : w.cell? ⟨d, 3, none⟩ = some (.int .i64 st) := cell_blk b0 3
  have c4 : w.cell? ⟨d, 4, none⟩ = some (.int .i64 k) := cell_blk b0 4
  have HLI : Hid (∀ p, Below w.heap.size w p → Calls Try.prog 27 #[.slice (some ⟨gl, 0, none⟩) M.L.length cl] p fun e q => ∃ a c, e = .returned (.slice a M.L.length c) ∧ Cl w p q 9 1 (.slice a M.L.length c) M.L.length (scs M.L)) := by
    intro p hp
    refine (cloneS_any gl M.L.length cl M.L p (keeps_below hp _ _ _ _ _ _ hV.lr) hok.top).mono ?_
    rintro e q ⟨v, rfl, h1, h2⟩
    obtain ⟨a, c, rfl⟩ := owns_shape h1
    exact ⟨a, c, rfl, cl_of hp h1 h2⟩
  have HSI : Hid (∀ p, Below w.heap.size w p → Calls Try.prog 27 #[.slice (some ⟨gs, 0, none⟩) M.S.length cs] p fun e q => ∃ a c, e = .returned (.slice a M.S.length c) ∧ Cl w p q 9 1 (.slice a M.S.length c) M.S.length (scs M.S)) := by
    intro p hp
    refine (cloneS_any gs M.S.length cs M.S p (keeps_below hp _ _ _ _ _ _ hV.sr) (by rw [hok.len]; exact hok.top)).mono ?_
    rintro e q ⟨v, rfl, h1, h2⟩
    obtain ⟨a, c, rfl⟩ := owns_shape h1
    exact ⟨a, c, rfl, cl_of hp h1 h2⟩
  have HCI : Hid (∀ p, Below w.heap.size w p → Calls Try.prog 32 #[.slice ca M.C.length cc] p fun e q => ∃ a c, e = .returned (.slice a M.C.length c) ∧ Cl w p q 66 2 (.slice a M.C.length c) M.C.length (ccs M.C)) := by
    intro p hp
    refine (cloneC_any _ M.C p (keeps_below hp _ _ _ _ _ _ hV.cr) hC).mono ?_
    rintro e q ⟨v, rfl, h1, h2⟩
    obtain ⟨a, c, rfl⟩ := owns_shape h1
    exact ⟨a, c, rfl, cl_of hp h1 h2⟩
  have HCE : Hid (∀ q : World, Below w.heap.size w q → q.cell? ⟨d, 0, none⟩ = some (.slice (some ⟨gl, 0, none⟩) M.L.length cl) ∧ q.cell? ⟨d, 1, none⟩ = some (.slice (some ⟨gs, 0, none⟩) M.S.length cs) ∧ q.cell? ⟨d, 2, none⟩ = some (.slice ca M.C.length cc) ∧ q.cell? ⟨d, 3, none⟩ = some (.int .i64 st) ∧ q.cell? ⟨d, 4, none⟩ = some (.int .i64 k) ∧ Below w.heap.size w q) := by
    intro q hq
    exact ⟨(hq.cell (p := ⟨d, 0, none⟩) hdlt).trans c0, (hq.cell (p := ⟨d, 1, none⟩) hdlt).trans c1, (hq.cell (p := ⟨d, 2, none⟩) hdlt).trans c2, (hq.cell (p := ⟨d, 3, none⟩) hdlt).trans c3, (hq.cell (p := ⟨d, 4, none⟩) hdlt).trans c4, hq⟩
  have HB0 := (show Below w.heap.size w w.drew from (Below.refl _ w).drew)
  have HOK : Hid M.Ok := hok
  have HST : Hid (st = (M.st : Int)) := hst
  have HK : Hid (k = M.k) := hk
  generalize hnl : M.L.length = nl at *
  generalize hns : M.S.length = ns at *
  generalize hnc : M.C.length = nc at *
  have HN1 : Hid (M.L.length = nl) := hnl
  have HN2 : Hid (M.S.length = ns) := hns
  have HN3 : Hid (M.C.length = nc) := hnc
  clear hV hfoot hok hF h b0 hst hk hnl hns hnc hC
  go_enter Try.func21, Try.ntmps21
  go_wp2
  go_region_held3 (fun w' => w'.cell? ⟨d, 0, none⟩ = some (.slice (some ⟨gl, 0, none⟩) nl cl) ∧ w'.cell? ⟨d, 1, none⟩ = some (.slice (some ⟨gs, 0, none⟩) ns cs) ∧ w'.cell? ⟨d, 2, none⟩ = some (.slice ca nc cc) ∧ w'.cell? ⟨d, 3, none⟩ = some (.int .i64 st) ∧ w'.cell? ⟨d, 4, none⟩ = some (.int .i64 k) ∧ Below w.heap.size w w') (first | exact HCE.out _ (by assumption) | exact HCE.out _ (below_alloc (by assumption) _) | (go_keep))
    (first
      | (go_at_call 27; (with_reducible refine Calls.mono (HLI.out _ (by assumption)) ?_); rintro e wL ⟨aL, kL, rfl, hL⟩; have hbL := hL.old)
      | (go_at_call 27; (with_reducible refine Calls.mono (HSI.out _ (by assumption)) ?_); rintro e wS ⟨aS, kS, rfl, hS⟩; have hbS := hS.old)
      | (go_at_call 32; (with_reducible refine Calls.mono (HCI.out _ (by assumption)) ?_); rintro e wC ⟨aC, kC, rfl, hC⟩; have hbC := hC.old))
  go_wp2
  go_ret
  have z1 := hL.size
  have z2 := hS.size
  have z3 := hC.size
  have z4 := hL.old.size
  have z0 : w.drew.heap.size = w.heap.size := rfl
  refine ⟨wC.heap.size, rfl, ?_⟩
  obtain rfl := HN1.out
  obtain rfl := HN2.out
  obtain rfl := HN3.out
  rw [HST.out, HK.out]
  exact copy_end HOK.out (hC.keeps _ _ _ _ _ _ (hS.keeps _ _ _ _ _ _ hL.row)) (hC.keeps _ _ _ _ _ _ hS.row) hC.row
    (fun g hg => by have := hL.lo g hg; omega) (fun g hg => by have := hS.lo g hg; omega) (fun g hg => by have := hC.lo g hg; omega)
    (apart_of hL.lo hS.lo (.inl (Nat.le_refl _))) (apart_of hL.lo hC.lo (.inl z2)) (apart_of hS.lo hC.lo (.inl (Nat.le_refl _))) hC.old
end Go.Proofs.Ythmjejmkkllbaaa
