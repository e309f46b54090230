/-
  A script of changes as it comes in, and what its puts make.
-/
import Derived.Test.YtpophalhmjchkaaFroL
import Derived.Test.YtpophalhmjchkaaAwake
import Derived.Test.YtpophalhmjchkaaDel
namespace Go.Proofs.Ytpophalhmjchkaa
open Go.RowKit Go.Shelf

abbrev OpT := ByteArray × ByteArray × Bool
/-- The script in memory. -/
def Ops (w : World) (a : Option Addr) (ops : List OpT) : Prop := ops = [] ∨ ∃ b off, a = some ⟨b, off, none⟩ ∧ b < w.heap.size ∧
  ∀ j (h : j < ops.length), w.cell? ⟨b, off + j * 3, none⟩ = some (.string ops[j].1) ∧ w.cell? ⟨b, off + j * 3 + 1, none⟩ = some (.string ops[j].2.1) ∧ w.cell? ⟨b, off + j * 3 + 2, none⟩ = some (.bool ops[j].2.2)
theorem Ops.at {w : World} {a : Option Addr} {ops : List OpT} (h : Ops w a ops) {j : Nat} (hj : j < ops.length) : ∃ b off, a = some ⟨b, off, none⟩ ∧ ∀ w', Below w.heap.size w w' → w'.cell? ⟨b, off + j * 3, none⟩ = some (.string ops[j].1) ∧ w'.cell? ⟨b, off + j * 3 + 1, none⟩ = some (.string ops[j].2.1) ∧ w'.cell? ⟨b, off + j * 3 + 2, none⟩ = some (.bool ops[j].2.2) := by
  rcases h with rfl | ⟨b, off, rfl, hb, hc⟩
  · simp at hj
  · obtain ⟨c0, c1, c2⟩ := hc j hj
    exact ⟨b, off, rfl, fun w' hw => ⟨(hw.cell (p := ⟨b, off + j * 3, none⟩) hb).trans c0, (hw.cell (p := ⟨b, off + j * 3 + 1, none⟩) hb).trans c1, (hw.cell (p := ⟨b, off + j * 3 + 2, none⟩) hb).trans c2⟩⟩
/-- The pairs behind the first j puts. -/
def PL (ops : List OpT) (j : Nat) : List KV := (ops.take j).foldl (fun L o => putL o.1 o.2.1 L) []
theorem PL_zero (ops : List OpT) : PL ops 0 = [] := rfl
theorem PL_succ {ops : List OpT} {j : Nat} (h : j < ops.length) : PL ops (j + 1) = putL ops[j].1 ops[j].2.1 (PL ops j) := by
  rw [PL, List.take_succ_eq_append_getElem h, List.foldl_append]
  rfl
theorem PL_srt (ops : List OpT) : ∀ j, j ≤ ops.length → Srt (PL ops j)
  | 0, _ => List.Pairwise.nil
  | j + 1, h => by rw [PL_succ (by omega)]; exact putL_srt (PL_srt ops j (by omega))
theorem PL_len (ops : List OpT) : ∀ j, j ≤ ops.length → (PL ops j).length ≤ j
  | 0, _ => Nat.le_refl _
  | j + 1, h => by
    rw [PL_succ (by omega), putL_len]
    have := PL_len ops j (by omega)
    split <;> omega

/-- Behind the last marks: a bool in its box is what is told. -/
theorem ret_bool_marks {w W : World} {p b n : Nat} {fn : Func} {tmps : Array Value} (Ds : List Nat) (hr : fn.results = #[.cell p 4]) (hp : tmps.getD p undef = .pointer (some ⟨b, 0, none⟩)) (hc : W.heap[b]? = some (.cells #[.bool true] 4 (0, 0))) (hn : Ds.Nodup) (hd : ∀ D ∈ Ds, W.heap[D]? = some (.deferred (some []))) (hbD : b ∉ Ds) (hD : ∀ D ∈ Ds, w.heap.size ≤ D) (hb : Below w.heap.size w W) :
    LeavesInM Fence.wide n Try.prog fn tmps (fun e w' => e = .returned (.bool true) ∧ Below w.heap.size w w') (Ds.map fun D => { target := .collected D, args := #[] }) .returning W := by
  refine leaves_marks Ds _ hn hd (fun W' hk => ⟨_, results_bool hr tmps W' b (.bool true) hp (hk.cell hbD (box_cell hc)), rfl, ?_⟩)
  exact hb.trans ((hk.mono (K' := fun q => q < w.heap.size) fun q _ h3 h4 => by have := hD q h4; omega).below hb.size)
theorem ret_bool_plain {w W : World} {p b n : Nat} {fn : Func} {tmps : Array Value} (hr : fn.results = #[.cell p 4]) (hp : tmps.getD p undef = .pointer (some ⟨b, 0, none⟩)) (hc : W.heap[b]? = some (.cells #[.bool true] 4 (0, 0))) (hb : Below w.heap.size w W) :
    LeavesInM Fence.wide n Try.prog fn tmps (fun e w' => e = .returned (.bool true) ∧ Below w.heap.size w w') [] .returning W :=
  ret_bool_marks [] hr hp hc List.nodup_nil (by simp) (by simp) (by simp) hb

/-- A key and the answer, each in its box. -/
structure KB (w : World) (v : Value) (t : Nat) (W : World) : Prop where
  k : W.heap[w.heap.size]? = some (.cells #[v] t (0, 0))
  r : W.heap[w.heap.size + 1]? = some (.cells #[.bool false] 4 (0, 0))
  old : Below w.heap.size w W
theorem KB.kept {w : World} {v : Value} {t : Nat} {W W' : World} (h : KB w v t W) {K : Nat → Prop} (hk : Kep K W W') (hK : ∀ q, q < w.heap.size + 2 → K q) : KB w v t W' :=
  ⟨(hk.keep _ (Array.getElem?_eq_some_iff.1 h.k).1 (hK _ (by omega))).trans h.k, (hk.keep _ (Array.getElem?_eq_some_iff.1 h.r).1 (hK _ (by omega))).trans h.r,
   h.old.trans ((hk.mono (K' := fun q => q < w.heap.size) fun q _ h2 => hK q (by omega)).below h.old.size)⟩
theorem KB.below {w : World} {v : Value} {t : Nat} {W W' : World} (h : KB w v t W) (hb : Below W.heap.size W W') : KB w v t W' := h.kept (K := fun _ => True) (Kep.of_below hb fun _ h _ => h) (fun _ _ => trivial)
theorem KB.made (w : World) (v : Value) (t : Nat) : KB w v t ((w.alloc (.cells #[v] t)).alloc (.cells #[.bool false] 4)) := by
  have hb := ((Below.refl _ w).alloc (Nat.le_refl _) (.cells #[v] t)).alloc (by simp) (.cells #[.bool false] 4)
  exact ⟨heap_alloc2_old _ _ _, heap_alloc2_new _ _ _, hb⟩
end Go.Proofs.Ytpophalhmjchkaa
