/-
  Does a tree tell just these pairs? The law's own question by its contract.
-/
import Derived.Test.YtpophalhmjchkaaFrom
namespace Go.Proofs.Ytpophalhmjchkaa
open Go.RowKit Go.Shelf

attribute [local go_sem] Oper.semAt_some

theorem box_cell {W : World} {b : Nat} {v : Value} {t : Nat} (h : W.heap[b]? = some (.cells #[v] t (0, 0))) : W.cell? ⟨b, 0, none⟩ = some v := cell_blk h 0
theorem box_free {W : World} {b : Nat} {v : Value} {t : Nat} (h : W.heap[b]? = some (.cells #[v] t (0, 0))) : W.frozen? ⟨b, 0, none⟩ = false := by simp [World.frozen?, h]
theorem box_set {W : World} {b : Nat} {v : Value} {t : Nat} (h : W.heap[b]? = some (.cells #[v] t (0, 0))) (u : Value) : (W.setCell ⟨b, 0, none⟩ u).heap[b]? = some (.cells #[u] t (0, 0)) := by
  have hlt := (Array.getElem?_eq_some_iff.1 h).1
  have he := (Array.getElem?_eq_some_iff.1 h).2
  show (W.heap.modify b _)[b]? = _
  rw [Array.getElem?_eq_getElem (by rw [Array.size_modify]; exact hlt), Array.getElem_modify_self, he]
  rfl
theorem box_other {W : World} {b b' : Nat} {o : Obj} (h : W.heap[b]? = some o) (hne : b ≠ b') (u : Value) : (W.setCell ⟨b', 0, none⟩ u).heap[b]? = some o := (Below.heap_setCell W ⟨b', 0, none⟩ u b hne).trans h

theorem results_bool {fn : Func} {p : Tmp} (h : fn.results = #[.cell p 4]) (tmps : Array Value) (w : World) (b : Nat) (v : Value) (hp : tmps.getD p undef = .pointer (some ⟨b, 0, none⟩)) (hc : w.cell? ⟨b, 0, none⟩ = some v) : (results fn tmps).run Try.prog w = .ok v w := by
  have hp' : tmps[p]?.getD undef = .pointer (some ⟨b, 0, none⟩) := by simpa using hp
  simp [results, h, hp', asAddr, loadVar, isAgg, run_underlying Try.underlying4, go_sem, hc]

/-- What 'same' holds between two rounds. -/
structure SI (w : World) (s : Nat) (l : Value) (n : Nat) (W : World) : Prop where
  l : W.heap[s]? = some (.cells #[l] 27 (0, 0))
  r : W.heap[s + 1]? = some (.cells #[.bool false] 4 (0, 0))
  i : W.heap[s + 2]? = some (.cells #[.int .i64 (n : Int)] 3 (0, 0))
  old : Below w.heap.size w W

theorem SI.kept {w : World} {s : Nat} {l : Value} {n : Nat} {W W' : World} (h : SI w s l n W) {K : Nat → Prop} (hk : Kep K W W') (hK : ∀ q, q < s + 3 → K q) (hs : s = w.heap.size) : SI w s l n W' := by
  refine ⟨(hk.keep s (Array.getElem?_eq_some_iff.1 h.l).1 (hK _ (by omega))).trans h.l, (hk.keep _ (Array.getElem?_eq_some_iff.1 h.r).1 (hK _ (by omega))).trans h.r, (hk.keep _ (Array.getElem?_eq_some_iff.1 h.i).1 (hK _ (by omega))).trans h.i, h.old.trans ?_⟩
  exact (hk.mono (K' := fun q => q < w.heap.size) fun q _ h2 => hK q (by omega)).below h.old.size
theorem SI.next {w : World} {s : Nat} {l : Value} {n : Nat} {W : World} (h : SI w s l n W) (hs : s = w.heap.size) {v : Int} (hv : v = ((n + 1 : Nat) : Int)) : SI w s l (n + 1) (W.setCell ⟨s + 2, 0, none⟩ (.int .i64 v)) :=
  ⟨box_other h.l (by omega) _, box_other h.r (by omega) _, by rw [box_set h.i, hv], h.old.setCell (p := ⟨s + 2, 0, none⟩) (by show _ ≤ s + 2; omega) _⟩

set_option maxRecDepth 100000 in
set_option maxHeartbeats 4000000 in
theorem same_any (b h : Nat) (t : T) (L : List KV) (a : Option Addr) (c : Nat) (w : World) (hT : Tr w b h t) (hL : toL h t = L) (hl : Sl w 2 a L.length c (pcs L)) (hn : L.length < 1000000000) :
    Calls Try.prog 15 #[.pointer (some ⟨b, 0, none⟩), .slice a L.length c] w fun e w' => e = .returned (.bool true) ∧ Below w.heap.size w w' := by
  obtain ⟨n, hn0⟩ : ∃ n, n = L.length := ⟨_, rfl⟩
  rw [← hn0] at hl hn ⊢
  have HN : Hid (n = L.length) := hn0
  have HTL : Hid (toL h t = L) := hL
  clear hn0 hL
  refine (callsIn_wide (n := 0)).1 ?_
  refine callsIn_of_wp_marks Try.func15 rfl trivial ?_ rfl
  simp only [Try.ntmps15, List.size_toArray, List.length_cons, List.length_nil, Nat.reduceAdd, Nat.reduceSub, Array.replicate_succ, Array.replicate_zero, List.push_toArray, List.append_toArray, List.nil_append, List.cons_append]
  refine wpIn_wide.2 ?_
  go_wp2_with (go_at_call 18; refine Calls.mono (from_any b _ _) ?_; rintro e w5 ⟨rfl, rfl⟩)
  obtain ⟨W, hW⟩ : ∃ W, W = ((w.alloc (.cells #[.slice a n c] 27)).alloc (.cells #[.bool false] 4)).alloc (.cells #[.int .i64 0] 3) := ⟨_, rfl⟩
  have hz : W.heap.size = w.heap.size + 1 + 1 + 1 := by rw [hW]; simp
  rw [← hW, ← hz]
  have hb1 : Below w.heap.size w (w.alloc (.cells #[.slice a n c] 27)) := (Below.refl _ w).alloc (Nat.le_refl _) _
  have hb2 := hb1.alloc (by simp) (.cells #[.bool false] 4)
  have hbW : Below w.heap.size w W := by rw [hW]; exact hb2.alloc (by simp; omega) _
  have hsi : SI w w.heap.size (.slice a n c) 0 W := by
    refine ⟨?_, ?_, ?_, hbW⟩
    · rw [hW]; exact (made_kep (fun _ => True) (w.alloc (.cells #[.slice a n c] 27)) _ _).keep _ (by simp) trivial |>.trans (heap_alloc_new w _)
    · rw [hW]
      have := heap_alloc_new (w.alloc (.cells #[.slice a n c] 27)) (.cells #[.bool false] 4)
      rw [World.size_alloc] at this
      exact ((Kep.alloc (fun _ => True) _ _).keep _ (by simp) trivial).trans this
    · rw [hW]
      have := heap_alloc_new ((w.alloc (.cells #[.slice a n c] 27)).alloc (.cells #[.bool false] 4)) (.cells #[.int .i64 0] 3)
      rw [World.size_alloc, World.size_alloc] at this
      exact this
  have hsq := made_seq ⟨#[]⟩ hT hbW
  rw [from_all, HTL.out] at hsq
  have HL : Hid (∀ pre x W', pre ++ [x] <+: L → Below w.heap.size w W' → pre.length < n ∧ ∃ bb off, a = some ⟨bb, off, none⟩ ∧ W'.cell? ⟨bb, off + pre.length * 2, none⟩ = some (.string x.1) ∧ W'.cell? ⟨bb, off + pre.length * 2 + 1, none⟩ = some (.string x.2)) := (by
    intro pre x W' hp hb'
    obtain ⟨h2, rfl⟩ := pre_get hp
    obtain ⟨bb, off, e, hbb, d0, d1⟩ := pair_at hl h2
    exact ⟨by have := HN.out; omega, bb, off, e, (hb'.cell (p := ⟨bb, off + pre.length * 2, none⟩) hbb).trans d0, (hb'.cell (p := ⟨bb, off + pre.length * 2 + 1, none⟩) hbb).trans d1⟩)
  have hlen := len_any (AV := avdNone) b h t
  rw [HTL.out, ← HN.out] at hlen
  have HZ : Hid (W.heap.size = w.heap.size + 1 + 1 + 1) := hz
  have hz2 : w.heap.size + 2 < W.heap.size := by omega
  clear hW hb1 hb2 hl hz
  rename_i K hK
  refine wpIn_wide.1 (range_law (n := 0) (gf := 30) (lb := #[.pointer (some ⟨W.heap.size, 0, none⟩), .pointer (some ⟨W.heap.size + 1, 0, none⟩)]) rfl (enters_of Try.func30 (by kernel_rfl) rfl) hsq (made_lt hbW) (fun _ => rfl)
    (fun pre M W' => M = (fun q => q = w.heap.size + 2) ∧ SI w w.heap.size (.slice a n c) pre.length W') (fun _ _ _ _ => False)
    (fun pre M W2 W3 h2 hk => ⟨h2.1, h2.2.kept hk (fun q hq => .inl (by simp; omega)) rfl⟩) (fun _ _ _ _ _ h2 _ => h2)
    (fun q => q = w.heap.size + 2) ?own ⟨rfl, hsi.kept (made_kep (fun _ => True) W _ _) (fun _ _ => trivial) rfl⟩
    (fun x => { tmps := #[.pointer (some ⟨b, 0, none⟩), .slice a n c, undef, .pointer (some ⟨w.heap.size, 0, none⟩), .pointer (some ⟨w.heap.size + 1, 0, none⟩), .pointer (some ⟨w.heap.size + 1 + 1, 0, none⟩), .string x.1, .string x.2, .pointer (some ⟨b, 0, none⟩),
      .func (.func 30) #[] #[.pointer (some ⟨W.heap.size, 0, none⟩), .pointer (some ⟨W.heap.size + 1, 0, none⟩)], .string x.1, .string x.2, undef, undef, undef, undef, undef, undef, undef, undef, undef, undef, undef, undef, undef,
      undef, undef, undef, undef, undef, undef, undef, undef, undef, undef, undef, undef, undef, undef, undef, undef, undef, undef, undef, undef, undef], defers := [] }) ?assign ?body ?done ?stop)
  case own =>
    rintro q rfl
    refine ⟨?_, by simp; omega⟩
    rintro (h2 | h2 | h2) <;> omega
  case assign =>
    intro m l' x W2 K hK
    dsimp only [encP]
    gi_wp2
    exact hK
  case body =>
    rintro m l' pre ⟨x, y⟩ M1 W2 ⟨rfl, h2⟩ hpre
    obtain ⟨hlt, bb, off, rfl, d0, d1⟩ := HL.out pre (x, y) W2 hpre h2.old
    have i1 := box_cell h2.i
    have i2 := box_free h2.i
    have i3 := box_cell h2.l
    have hltI : ((pre.length : Nat) : Int) < (n : Int) := by omega
    dsimp only at d0 d1
    gi_wp2
    exact ⟨_, ⟨Kep.set W2 _ (by show ¬ ¬ (w.heap.size + 2 = w.heap.size + 2); simp), fun _ _ h => h, by rintro q rfl; have := (Array.getElem?_eq_some_iff.1 h2.i).1; simpa [World.setCell] using this⟩, rfl, by rw [List.length_append]; exact h2.next rfl (by simp)⟩
  case done =>
    rintro D M1 W2 hD hMD ⟨rfl, h2⟩ hdef
    have i1 := box_cell h2.i
    have i3 := box_cell h2.l
    have i4 := box_cell h2.r
    have i5 := box_free h2.r
    rw [← HN.out] at i1
    have hl2 := hlen W2.drew (hT.below h2.old.drew)
    refine hK _ _ ?_
    go_wp2
    rename_i K2 hK2
    refine wp_mono (Q := Exit.then (fun a5 w5 => a5.defers = [{ target := .collected D, args := #[] }] ∧ a5.tmps.getD 4 undef = .pointer (some ⟨w.heap.size + 1, 0, none⟩) ∧ w5 = (W2.setCell ⟨w.heap.size + 1, 0, none⟩ (.bool true)).drew) (fun _ _ _ => False)) ?reg ?cont
    case reg =>
      go_region_held3 (fun w' => w'.cell? ⟨w.heap.size, 0, none⟩ = some (.slice a n c) ∧ w'.cell? ⟨w.heap.size + 1 + 1, 0, none⟩ = some (.int .i64 (n : Int)) ∧ w'.frozen? ⟨w.heap.size + 1, 0, none⟩ = false) (go_keep)
        (first
          | (go_at_call 19; refine Calls.mono hl2 ?_; rintro e w5 ⟨rfl, rfl⟩))
      exact ⟨rfl, rfl, rfl⟩
    case cont =>
      intro e a5 w5 h5
      cases e with
      | normal =>
        obtain ⟨q1, q2, rfl⟩ := h5
        refine hK2 _ _ (wp_ret ?_)
        show LeavesInM _ _ _ _ a5.tmps _ a5.defers _ _
        rw [q1]
        have hbz := hbW.size
        have hDz : W.heap.size + 2 ≤ D := by simpa using hD
        refine leaves_marks [D] _ (by simp) ?_ (fun W' hk => ⟨_, results_bool rfl a5.tmps W' (w.heap.size + 1) (.bool true) q2 ?_, rfl, ?_⟩)
        · intro E hE
          rw [List.mem_singleton] at hE
          subst hE
          exact (Kep.set (K := fun q => q = E) W2 _ (by show ¬ (w.heap.size + 1 = E); omega)).keep E (Array.getElem?_eq_some_iff.1 hdef).1 rfl |>.trans hdef
        · exact hk.cell (by simp; omega) (box_cell (box_set h2.r _))
        · have hb3 : Below w.heap.size w (W2.setCell ⟨w.heap.size + 1, 0, none⟩ (.bool true)).drew := (h2.old.setCell (p := ⟨w.heap.size + 1, 0, none⟩) (by show _ ≤ w.heap.size + 1; omega) _).drew
          exact hb3.trans ((hk.mono (K' := fun q => q < w.heap.size) fun q _ h3 => by simp; omega).below hb3.size)
      | _ => exact h5.elim
  case stop =>
    rintro D c pre M1 W2 hD hMD hpre h2 hdef
    exact h2.elim
end Go.Proofs.Ytpophalhmjchkaa
