/-
  Deep: how deep an element is.
-/
import Derived.Test.YtohkocknpmnakaaGreatDoorTo
import Derived.Test.YtohkocknpmnakaaGreatDoorRunW
import Derived.Deep.Draws
import Derived.Carry
import Derived.Test.YtohkocknpmnakaaGreatDoorRows
import Derived.WalkKit
import Derived.ProofKit
import Derived.OpenShut
import Derived.Deep.Slices
import Derived.Test.YtohkocknpmnakaaGreatDoorCon
import Derived.Test.YtohkocknpmnakaaGreatDoorEle
import Derived.Test.YtohkocknpmnakaaGreatDoorPar
import Derived.Test.YtohkocknpmnakaaGreatDoorAwk
namespace Go.Proofs.YtohkocknpmnakaaGreatDoor
open Go.RowKit

/-- Elements in memory, as far down as told. -/
def Inp : Nat → World → Option Addr → List Nod → Prop
  | 0, _, _, _ => True
  | h + 1, w, a, ks => ks = [] ∨ ∃ b off, a = some ⟨b, off, none⟩ ∧ b < w.heap.size ∧ ∀ j (hj : j < ks.length), ∃ a' c',
      w.cell? ⟨b, off + j * 3, none⟩ = some (.string ⟨(ks[j]).nm.toArray⟩) ∧ w.cell? ⟨b, off + j * 3 + 1, none⟩ = some (.string ⟨(ks[j]).tx.toArray⟩) ∧ w.cell? ⟨b, off + j * 3 + 2, none⟩ = some (.slice a' (ks[j]).ks.length c') ∧ Inp h w a' (ks[j]).ks
theorem Inp.below {w w' : World} (hb : Below w.heap.size w w') : ∀ {h : Nat} {a : Option Addr} {ks : List Nod}, Inp h w a ks → Inp h w' a ks
  | 0, _, _, _ => trivial
  | h + 1, a, ks, hi => by
    rcases hi with hi | ⟨b, off, h1, h3, h4⟩
    · exact .inl hi
    · refine .inr ⟨b, off, h1, Nat.lt_of_lt_of_le h3 hb.size, fun j hj => ?_⟩
      obtain ⟨a', c', k1, k2, k3, k4⟩ := h4 j hj
      have hc : ∀ o, w'.cell? ⟨b, o, none⟩ = w.cell? ⟨b, o, none⟩ := fun o => hb.cell (p := ⟨b, o, none⟩) h3
      exact ⟨a', c', (hc _).trans k1, (hc _).trans k2, (hc _).trans k3, Inp.below hb k4⟩
theorem Inm.inp {w : World} : ∀ {h m : Nat} {a : Option Addr} {ks : List Nod}, m ≤ h → Inm h w a ks → Inp m w a ks
  | _, 0, _, _, _, _ => trivial
  | 0, m + 1, _, _, hm, _ => by omega
  | h + 1, m + 1, a, ks, hm, hi => by
    rcases hi with hi | ⟨b, off, h1, -, h3, h4⟩
    · exact .inl hi
    · refine .inr ⟨b, off, h1, h3, fun j hj => ?_⟩
      obtain ⟨a', c', k1, k2, k3, k4⟩ := h4 j hj
      exact ⟨a', c', k1, k2, k3, Inm.inp (by omega) k4⟩
/-- Rows of elements that are not too long, as far down as told. -/
def Lng (N : Nat) : Nat → List Nod → Prop
  | 0, _ => True
  | h + 1, ks => ks.length ≤ N ∧ ∀ t ∈ ks, Lng N h t.ks
/-- How deep, up to a bound. -/
def depF : Nat → List Nod → Nat
  | 0, _ => 1
  | m + 1, ks => (ks.map fun t => depF m t.ks).foldl max 0 + 1
def mxF (m : Nat) (ks : List Nod) : Nat := (ks.map fun t => depF m t.ks).foldl max 0
theorem mxF_snoc (m : Nat) (ks : List Nod) (t : Nod) : mxF m (ks ++ [t]) = max (mxF m ks) (depF m t.ks) := by
  simp [mxF]
theorem dep_le : ∀ (m : Nat) (ks : List Nod), depF m ks ≤ m + 1
  | 0, _ => Nat.le_refl _
  | m + 1, ks => by
    have h : ∀ (l : List Nat) (x : Nat), (∀ y ∈ l, y ≤ m + 1) → x ≤ m + 1 → l.foldl max x ≤ m + 1 := by
      intro l
      induction l with
      | nil => intro x _ hx; exact hx
      | cons y l ih =>
        intro x hl hx
        exact ih _ (fun z hz => hl z (List.mem_cons_of_mem _ hz)) (by have := hl y (List.mem_cons_self ..); omega)
    have := h (ks.map fun t => depF m t.ks) 0 (by
      intro y hy
      obtain ⟨t, -, rfl⟩ := List.mem_map.1 hy
      exact dep_le m t.ks) (Nat.zero_le _)
    show _ + 1 ≤ _
    omega
theorem mx_le (m : Nat) (ks : List Nod) : mxF m ks ≤ m + 1 := by
  have := dep_le (m + 1) ks
  have e : depF (m + 1) ks = mxF m ks + 1 := rfl
  omega

set_option maxRecDepth 20000 in
set_option maxHeartbeats 1600000 in
theorem deep_zero (t : Nod) (a : Option Addr) (c : Nat) (W : World) :
    Calls Tryz.prog 14 #[ndV t a c, .int .i64 0] W fun e w' => e = .returned (.int .i64 1) ∧ Below W.heap.size W w' := by
  unfold ndV
  generalize (⟨t.nm.toArray⟩ : ByteArray) = n
  generalize (⟨t.tx.toArray⟩ : ByteArray) = x
  obtain ⟨w0, hw0⟩ : ∃ w0, w0 = W.alloc (.cells #[.string n, .string x, .slice a t.ks.length c] 24) := ⟨_, rfl⟩
  have H0 : Hid (Below W.heap.size W w0) := by rw [hw0]; exact (Below.refl _ _).alloc (Nat.le_refl _) _
  generalize t.ks.length = N at *
  go_enter Tryz.func14, Tryz.ntmps14
  go_wp2
  refine wp_loop_rounds 1 ?_
  rw [rounds_succ]
  go_wp2
  all_goals
    go_ret
    rw [← hw0]
    exact ⟨rfl, H0.out⟩

set_option maxRecDepth 20000 in
set_option maxHeartbeats 3200000 in
theorem deep_step (m : Nat) (hm : m < 64) (t : Nod) (a : Option Addr) (c : Nat) (W : World) (hi : Inp (m + 1) W a t.ks) (hlen : t.ks.length ≤ 2513169434916)
    (HT : ∀ t' ∈ t.ks, ∀ a c W', Inp m W' a t'.ks → Calls Tryz.prog 14 #[ndV t' a c, .int .i64 (m : Int)] W' fun e w' => e = .returned (.int .i64 (depF m t'.ks : Int)) ∧ Below W'.heap.size W' w') :
    Calls Tryz.prog 14 #[ndV t a c, .int .i64 ((m : Int) + 1)] W fun e w' => e = .returned (.int .i64 (depF (m + 1) t.ks : Int)) ∧ Below W.heap.size W w' := by
  obtain ⟨ks, hks⟩ : ∃ ks, ks = t.ks := ⟨_, rfl⟩
  obtain ⟨n, hn⟩ : ∃ n : ByteArray, n = ⟨t.nm.toArray⟩ := ⟨_, rfl⟩
  obtain ⟨x, hx⟩ : ∃ x : ByteArray, x = ⟨t.tx.toArray⟩ := ⟨_, rfl⟩
  unfold ndV
  rw [← hks] at hi hlen HT ⊢
  rw [← hn, ← hx]
  have HI : Hid (Inp (m + 1) W a ks) := hi
  have HTQ := (show Hid (∀ j (hj : j < ks.length), ∀ a c W', Inp m W' a (ks[j]).ks → Calls Tryz.prog 14 #[ndV (ks[j]) a c, .int .i64 (m : Int)] W' fun e w' => e = .returned (.int .i64 (depF m (ks[j]).ks : Int)) ∧ Below W'.heap.size W' w') from fun j hj => HT _ (List.getElem_mem hj))
  obtain ⟨w0, hw0⟩ : ∃ w0, w0 = W.alloc (.cells #[.string n, .string x, .slice a ks.length c] 24) := ⟨_, rfl⟩
  obtain ⟨p, hp⟩ : ∃ p, p = W.heap.size := ⟨_, rfl⟩
  have H0 : Hid (w0.heap[p]? = some (.cells #[.string n, .string x, .slice a ks.length c] 24 (0, 0)) ∧ Below W.heap.size W w0) := by
    rw [hw0, hp]
    exact ⟨heap_alloc_new _ _, (Below.refl _ _).alloc (Nat.le_refl _) _⟩
  clear hi HT hks hn hx
  go_enter Tryz.func14, Tryz.ntmps14
  go_wp2
  rw [← hw0, ← hp]
  clear hw0 hp
  go_loopw [5, 6] (fun d i wx => ∃ k : Nat, k ≤ ks.length ∧ i = .int .i64 k ∧ d = .int .i64 (mxF m (ks.take k) : Int) ∧ Below w0.heap.size w0 wx) (fun _ i _ => ks.length - (intOf i).toNat)
  case atStart => exact ⟨0, Nat.zero_le _, rfl, rfl, Below.refl _ _⟩
  case round =>
    obtain ⟨k, hkl, rfl, rfl, hbl⟩ := hrel
    have hb0 := (hbl.block p (blk_lt H0.out.1)).trans H0.out.1
    have c2 : wr.cell? ⟨p, 2, none⟩ = some (.slice a ks.length c) := cell_blk hb0 2
    have hB : Below W.heap.size W wr := H0.out.2.trans (hbl.mono H0.out.2.size)
    have HB : Hid (Below w0.heap.size w0 wr ∧ Below W.heap.size W wr) := ⟨hbl, hB⟩
    have hmx := mx_le m (ks.take k)
    have hmp : (0 : Int) < (m : Int) + 1 := by omega
    clear hb0 hbl
    by_cases hlt : k < ks.length
    · rcases HI.out with hnil | ⟨b, off, rfl, hbW, hcs⟩
      · rw [hnil] at hlt
        exact absurd hlt (by simp)
      obtain ⟨ak, ck, l0, l1, l2, hkd⟩ := hcs k hlt
      have e0 := (hB.cell (p := ⟨b, off + k * 3, none⟩) hbW).trans l0
      have e1 := (hB.cell (p := ⟨b, off + k * 3 + 1, none⟩) hbW).trans l1
      have e2 := (hB.cell (p := ⟨b, off + k * 3 + 2, none⟩) hbW).trans l2
      have KT := HTQ.out k hlt ak ck wr (hkd.below hB)
      have HS : Hid (mxF m (ks.take (k + 1)) = max (mxF m (ks.take k)) (depF m (ks[k]).ks)) := by
        show _ = _
        rw [List.take_succ_eq_append_getElem hlt, mxF_snoc]
      have hdl := dep_le m (ks[k]).ks
      obtain ⟨t', ht'⟩ : ∃ t', t' = ks[k] := ⟨_, rfl⟩
      rw [← ht'] at e0 e1 e2 KT HS hdl
      unfold ndV at KT
      generalize depF m t'.ks = D at *
      generalize mxF m (ks.take k) = M at *
      have hkI : (k : Int) < (ks.length : Int) := by omega
      have hsub : (m : Int) + 1 - 1 = (m : Int) := by omega
      clear hkd l0 l1 l2 ht' hB
      go_wp2_with fail
      refine KT.mono ?_
      rintro e w1 ⟨rfl, hb1⟩
      have H9 : Hid (Below w0.heap.size w0 w1) := HB.out.1.trans (hb1.mono HB.out.1.size)
      clear hb1 KT e0 e1 e2 c2
      go_wp2
      exact ⟨⟨k + 1, by omega, by go_num, by rw [HS.out]; congr 1; omega, H9.out⟩, by simp only [intOf]; omega⟩
    · obtain rfl : k = ks.length := by omega
      rw [List.take_length] at hmx ⊢
      have HD : Hid (depF (m + 1) ks = mxF m ks + 1) := rfl
      generalize mxF m ks = M at *
      clear hB
      go_wp2
      go_ret
      exact ⟨ret_int (by rw [HD.out]; omega), HB.out.2⟩

/-- Deep, of every element in memory. -/
theorem deep_all : ∀ (m : Nat), m ≤ 64 → ∀ (t : Nod) (a : Option Addr) (c : Nat) (W : World), Inp m W a t.ks → Lng 2513169434916 m t.ks → Calls Tryz.prog 14 #[ndV t a c, .int .i64 (m : Int)] W fun e w' => e = .returned (.int .i64 (depF m t.ks : Int)) ∧ Below W.heap.size W w'
  | 0, _, t, a, c, W, _, _ => deep_zero t a c W
  | m + 1, hm, t, a, c, W, hi, hl => deep_step m (by omega) t a c W hi hl.1 (fun t' ht a c W' h' => deep_all m (by omega) t' a c W' h' (hl.2 t' ht))
end Go.Proofs.YtohkocknpmnakaaGreatDoor
/-
  Same: of equal elements it is true.
-/
namespace Go.Proofs.YtohkocknpmnakaaGreatDoor
open Go.RowKit

def SmQ (h : Nat) : Prop := ∀ (t : Nod) (a b : Option Addr) (c d : Nat) (W : World), Inm h W a t.ks → Inm h W b t.ks → Sml h t.ks → Calls Tryz.prog 11 #[ndV t a c, ndV t b d] W fun e w' => e = .returned (.bool true) ∧ Below W.heap.size W w'

set_option maxRecDepth 20000 in
set_option maxHeartbeats 3200000 in
theorem same_step (h : Nat) (t : Nod) (a b : Option Addr) (c d : Nat) (W : World) (hia : Inm (h + 1) W a t.ks) (hib : Inm (h + 1) W b t.ks) (hlen : t.ks.length ≤ 65536)
    (HT : ∀ t' ∈ t.ks, ∀ a b c d W', Inm h W' a t'.ks → Inm h W' b t'.ks → Calls Tryz.prog 11 #[ndV t' a c, ndV t' b d] W' fun e w' => e = .returned (.bool true) ∧ Below W'.heap.size W' w') :
    Calls Tryz.prog 11 #[ndV t a c, ndV t b d] W fun e w' => e = .returned (.bool true) ∧ Below W.heap.size W w' := by
  obtain ⟨ks, hks⟩ : ∃ ks, ks = t.ks := ⟨_, rfl⟩
  obtain ⟨n, hn⟩ : ∃ n : ByteArray, n = ⟨t.nm.toArray⟩ := ⟨_, rfl⟩
  obtain ⟨x, hx⟩ : ∃ x : ByteArray, x = ⟨t.tx.toArray⟩ := ⟨_, rfl⟩
  unfold ndV
  rw [← hks] at hia hib hlen HT ⊢
  rw [← hn, ← hx]
  have HI : Hid (Inm (h + 1) W a ks ∧ Inm (h + 1) W b ks) := ⟨hia, hib⟩
  have HTQ := (show Hid (∀ j (hj : j < ks.length), ∀ a b c d W', Inm h W' a (ks[j]).ks → Inm h W' b (ks[j]).ks → Calls Tryz.prog 11 #[ndV (ks[j]) a c, ndV (ks[j]) b d] W' fun e w' => e = .returned (.bool true) ∧ Below W'.heap.size W' w') from fun j hj => HT _ (List.getElem_mem hj))
  obtain ⟨w0, hw0⟩ : ∃ w0, w0 = (W.alloc (.cells #[.string n, .string x, .slice a ks.length c] 30)).alloc (.cells #[.string n, .string x, .slice b ks.length d] 30) := ⟨_, rfl⟩
  have H0 : Hid (w0.cell? ⟨W.heap.size, 2, none⟩ = some (.slice a ks.length c) ∧ w0.cell? ⟨W.heap.size + 1, 2, none⟩ = some (.slice b ks.length d) ∧ Below W.heap.size W w0 ∧ w0.heap.size = W.heap.size + 2) := by
    rw [hw0]
    have e1 : (W.alloc (.cells #[.string n, .string x, .slice a ks.length c] 30)).heap.size = W.heap.size + 1 := by show (W.heap.push _).size = _; simp
    have e2 : ((W.alloc (.cells #[.string n, .string x, .slice a ks.length c] 30)).alloc (.cells #[.string n, .string x, .slice b ks.length d] 30)).heap.size = W.heap.size + 2 := by show ((W.heap.push _).push _).size = _; simp
    have h2 := heap_alloc_new (W.alloc (.cells #[.string n, .string x, .slice a ks.length c] 30)) (.cells #[.string n, .string x, .slice b ks.length d] 30)
    rw [e1] at h2
    refine ⟨?_, cell_blk h2 2, ((Below.refl _ _).alloc (Nat.le_refl _) _).alloc (by omega) _, e2⟩
    exact cell_blk ((Below.heap_alloc _ _ _ (by omega)).trans (heap_alloc_new _ _)) 2
  clear hia hib HT hks hn hx
  go_enter Tryz.func11, Tryz.ntmps11
  go_wp2
  rw [← hw0]
  clear hw0
  generalize hq : W.heap.size + 1 = q at H0 ⊢
  obtain ⟨p, hp⟩ : ∃ p, p = W.heap.size := ⟨_, rfl⟩
  have HQ : Hid (q = W.heap.size + 1 ∧ p = W.heap.size) := ⟨hq.symm, hp⟩
  rw [← hp]
  clear hq hp
  go_loopw [5] (fun i wx => ∃ k : Nat, k ≤ ks.length ∧ i = .int .i64 k ∧ Below w0.heap.size w0 wx) (fun i _ => ks.length - (intOf i).toNat)
  case atStart => exact ⟨0, Nat.zero_le _, rfl, Below.refl _ _⟩
  case round =>
    obtain ⟨k, hkl, rfl, hbl⟩ := hrel
    have hz := hbl.size
    have h2 := H0.out.2.2.2
    have e1 := HQ.out.1
    have e2 := HQ.out.2
    have c2 := (hbl.cell (p := ⟨W.heap.size, 2, none⟩) (by show W.heap.size < _; omega)).trans H0.out.1
    have d2 := (hbl.cell (p := ⟨q, 2, none⟩) (by show q < _; omega)).trans H0.out.2.1
    rw [← e2] at c2
    have hB : Below W.heap.size W wr := H0.out.2.2.1.trans (hbl.mono (by omega))
    have HB : Hid (Below w0.heap.size w0 wr ∧ Below W.heap.size W wr) := ⟨hbl, hB⟩
    by_cases hlt : k < ks.length
    · rcases HI.out.1 with hnil | ⟨ba, oa, rfl, -, hba, hca⟩
      · rw [hnil] at hlt
        exact absurd hlt (by simp)
      rcases HI.out.2 with hnil | ⟨bb, ob, rfl, -, hbb, hcb⟩
      · rw [hnil] at hlt
        exact absurd hlt (by simp)
      obtain ⟨ak, ck, a0, a1, a2, hka⟩ := hca k hlt
      obtain ⟨bk, dk, b0, b1, b2, hkb⟩ := hcb k hlt
      have hc : ∀ (g o : Nat) {v : Value}, g < W.heap.size → W.cell? ⟨g, o, none⟩ = some v → wr.cell? ⟨g, o, none⟩ = some v := fun g o v hg hv => (hB.cell (p := ⟨g, o, none⟩) hg).trans hv
      replace a0 := hc _ _ hba a0
      replace a1 := hc _ _ hba a1
      replace a2 := hc _ _ hba a2
      replace b0 := hc _ _ hbb b0
      replace b1 := hc _ _ hbb b1
      replace b2 := hc _ _ hbb b2
      have KT := HTQ.out k hlt ak bk ck dk
      have HKd : Hid (Inm h W ak (ks[k]).ks ∧ Inm h W bk (ks[k]).ks) := ⟨hka, hkb⟩
      obtain ⟨t', ht'⟩ : ∃ t', t' = ks[k] := ⟨_, rfl⟩
      rw [← ht'] at a0 a1 a2 b0 b1 b2 KT HKd
      unfold ndV at KT
      have hi1 : Inm h wr ak t'.ks ∧ Inm h wr bk t'.ks := ⟨HKd.out.1.below hB, HKd.out.2.below hB⟩
      have hi2 : Inm h wr.drew ak t'.ks ∧ Inm h wr.drew bk t'.ks := ⟨HKd.out.1.below hB.drew, HKd.out.2.below hB.drew⟩
      have hkI : (k : Int) < (ks.length : Int) := by omega
      have hk6 : k < 65536 := by omega
      have HC := (show Hid (∀ w', Below wr.heap.size wr w' → w'.cell? ⟨p, 2, none⟩ = some (.slice (some ⟨ba, oa, none⟩) ks.length c) ∧ w'.cell? ⟨q, 2, none⟩ = some (.slice (some ⟨bb, ob, none⟩) ks.length d) ∧ w'.cell? ⟨ba, oa + k * 3, none⟩ = some (.string ⟨t'.nm.toArray⟩) ∧ w'.cell? ⟨ba, oa + k * 3 + 1, none⟩ = some (.string ⟨t'.tx.toArray⟩) ∧ w'.cell? ⟨ba, oa + k * 3 + 2, none⟩ = some (.slice ak t'.ks.length ck) ∧ w'.cell? ⟨bb, ob + k * 3, none⟩ = some (.string ⟨t'.nm.toArray⟩) ∧ w'.cell? ⟨bb, ob + k * 3 + 1, none⟩ = some (.string ⟨t'.tx.toArray⟩) ∧ w'.cell? ⟨bb, ob + k * 3 + 2, none⟩ = some (.slice bk t'.ks.length dk)) from fun w' hh => by
        have hcc : ∀ (g o : Nat) {v : Value}, g < wr.heap.size → wr.cell? ⟨g, o, none⟩ = some v → w'.cell? ⟨g, o, none⟩ = some v := fun g o v hg hv => (hh.cell (p := ⟨g, o, none⟩) hg).trans hv
        exact ⟨hcc _ _ (by omega) c2, hcc _ _ (by omega) d2, hcc _ _ (by omega) a0, hcc _ _ (by omega) a1, hcc _ _ (by omega) a2, hcc _ _ (by omega) b0, hcc _ _ (by omega) b1, hcc _ _ (by omega) b2⟩)
      clear e1 e2 h2 hz hbl hB hc hka hkb ht'
      go_wp2_with fail
      go_region_held3 (fun w' => w'.cell? ⟨p, 2, none⟩ = some (.slice (some ⟨ba, oa, none⟩) ks.length c) ∧ w'.cell? ⟨q, 2, none⟩ = some (.slice (some ⟨bb, ob, none⟩) ks.length d) ∧ w'.cell? ⟨ba, oa + k * 3, none⟩ = some (.string ⟨t'.nm.toArray⟩) ∧ w'.cell? ⟨ba, oa + k * 3 + 1, none⟩ = some (.string ⟨t'.tx.toArray⟩) ∧ w'.cell? ⟨ba, oa + k * 3 + 2, none⟩ = some (.slice ak t'.ks.length ck) ∧ w'.cell? ⟨bb, ob + k * 3, none⟩ = some (.string ⟨t'.nm.toArray⟩) ∧ w'.cell? ⟨bb, ob + k * 3 + 1, none⟩ = some (.string ⟨t'.tx.toArray⟩) ∧ w'.cell? ⟨bb, ob + k * 3 + 2, none⟩ = some (.slice bk t'.ks.length dk)) (first | (exact HC.out _ hs1) | (go_keep))
        (first | (go_at_call 11; (with_reducible refine Calls.mono (KT _ ?_ ?_) ?_); (first | exact hi1.1 | exact hi2.1); (first | exact hi1.2 | exact hi2.2); rintro e w1 ⟨rfl, hb1⟩; have hs1 : Below wr.heap.size wr w1 := (by first | exact hb1 | exact ((Below.refl _ _).drew).trans hb1)))
      have H9 : Hid (Below w0.heap.size w0 w1) := HB.out.1.trans (hs1.mono HB.out.1.size)
      clear hs1 hb1 HC c2 d2 a0 a1 a2 b0 b1 b2
      go_wp2
      exact ⟨⟨k + 1, by omega, by go_num, H9.out⟩, by simp only [intOf]; omega⟩
    · obtain rfl : k = ks.length := by omega
      clear e1 e2 h2 hz hbl hB
      go_wp2
      go_ret
      exact ⟨rfl, HB.out.2⟩

theorem smq_all : ∀ h, SmQ h
  | 0 => fun t a b c d W hk _ _ => by
    have hks : t.ks = [] := hk
    exact same_step 0 t a b c d W (by rw [hks]; exact Kd.nil _ _ _ _) (by rw [hks]; exact Kd.nil _ _ _ _) (by rw [hks]; simp) (fun t' ht => by rw [hks] at ht; cases ht)
  | h + 1 => fun t a b c d W hk hk2 hs => same_step h t a b c d W hk hk2 hs.1 (fun t' ht a b c d W' hi hi2 => smq_all h t' a b c d W' hi hi2 (hs.2 t' ht))
end Go.Proofs.YtohkocknpmnakaaGreatDoor
/-
  To and Same, of elements with longer rows.
-/
namespace Go.Proofs.YtohkocknpmnakaaGreatDoor
open Go.RowKit

def SmlB : Nat → List Nod → Prop
  | 0, _ => True
  | h + 1, ks => ks.length ≤ 10000000 ∧ ∀ t ∈ ks, SmlB h t.ks
def ToQB (h : Nat) : Prop := ∀ (t : Nod) (a : Option Addr) (c : Nat) (W : World), Inm h W a t.ks → SmlB h t.ks → Calls Tryz.prog 12 #[ndV t a c] W fun e w' => ∃ a' c', e = .returned (ndV t a' c') ∧ Kd (fun b => W.heap.size ≤ b) h w' a' t.ks ∧ Below W.heap.size W w'

set_option maxRecDepth 20000 in
set_option maxHeartbeats 3200000 in
theorem to_stepB (h : Nat) (t : Nod) (a : Option Addr) (c : Nat) (W : World) (hi : Inm (h + 1) W a t.ks) (hlen : t.ks.length ≤ 10000000)
    (HT : ∀ t' ∈ t.ks, ∀ a c W', Inm h W' a t'.ks → Calls Tryz.prog 12 #[ndV t' a c] W' fun e w' => ∃ a' c', e = .returned (ndV t' a' c') ∧ Kd (fun b => W'.heap.size ≤ b) h w' a' t'.ks ∧ Below W'.heap.size W' w') :
    Calls Tryz.prog 12 #[ndV t a c] W fun e w' => ∃ a' c', e = .returned (ndV t a' c') ∧ Kd (fun b => W.heap.size ≤ b) (h + 1) w' a' t.ks ∧ Below W.heap.size W w' := by
  obtain ⟨ks, hks⟩ : ∃ ks, ks = t.ks := ⟨_, rfl⟩
  obtain ⟨n, hn⟩ : ∃ n : ByteArray, n = ⟨t.nm.toArray⟩ := ⟨_, rfl⟩
  obtain ⟨x, hx⟩ : ∃ x : ByteArray, x = ⟨t.tx.toArray⟩ := ⟨_, rfl⟩
  unfold ndV
  rw [← hks] at hi hlen HT ⊢
  rw [← hn, ← hx]
  have HI : Hid (Inm (h + 1) W a ks) := hi
  have HTQ := (show Hid (∀ j (hj : j < ks.length), ∀ a c W', Inm h W' a (ks[j]).ks → Calls Tryz.prog 12 #[ndV (ks[j]) a c] W' fun e w' => ∃ a' c', e = .returned (ndV (ks[j]) a' c') ∧ Kd (fun b => W'.heap.size ≤ b) h w' a' (ks[j]).ks ∧ Below W'.heap.size W' w') from fun j hj => HT _ (List.getElem_mem hj))
  obtain ⟨i0, hii, hz0, hz1, hz2⟩ := info_parts info30
  obtain ⟨w0, hw0⟩ : ∃ w0, w0 = ((W.alloc (.cells #[.string n, .string x, .slice a ks.length c] 24)).alloc (.cells #[.string ⟨#[]⟩, .string ⟨#[]⟩, .slice none 0 0] 30)).alloc (.cells #[.string n, .string x, .slice none 0 0] 30) := ⟨_, rfl⟩
  have H0 : Hid (Bxs W w0 (W.heap.size + 1) (W.heap.size + 1 + 1) n x (.slice a ks.length c) (.slice none 0 0)) := by
    rw [hw0]
    exact Bxs.start W n x _
  clear hi HT hks hn hx
  go_enter Tryz.func12, Tryz.ntmps12
  go_wp2
  rw [← hw0]
  clear hw0
  generalize hr : W.heap.size + 1 + 1 = r at H0 ⊢
  generalize hq : W.heap.size + 1 = q at H0 ⊢
  obtain ⟨p, hp⟩ : ∃ p, p = W.heap.size := ⟨_, rfl⟩
  have HQ : Hid (p = W.heap.size) := hp
  rw [← hp]
  clear hr hq hp
  go_loopw [4] (fun i wx => ∃ (k : Nat) (v : Value), k ≤ ks.length ∧ i = .int .i64 k ∧ Bxs W wx q r n x (.slice a ks.length c) v ∧ KR 30 (fun b => W.heap.size + 3 ≤ b ∧ v.ownBlock ≠ some b) h wx (W.heap.size + 3) v (ks.take k)) (fun i _ => ks.length - (intOf i).toNat)
  case atStart => exact ⟨0, .slice none 0 0, Nat.zero_le _, rfl, H0.out, KR.nil _ _ _ _ _⟩
  case round =>
    obtain ⟨k, v, hkl, rfl, hbx, hkr⟩ := hrel
    have hb0 := hbx.b0
    rw [← HQ.out] at hb0
    have c2 : wr.cell? ⟨p, 2, none⟩ = some (.slice a ks.length c) := cell_blk hb0 2
    obtain ⟨⟨r0, r1, r2⟩, -, -, rf2⟩ := hbx.b2.cells
    have hrz : r < wr.heap.size := blk_lt hbx.b2
    have hpz : p < wr.heap.size := blk_lt hb0
    by_cases hlt : k < ks.length
    · have htl : (ks.take k).length = k := by rw [List.length_take]; omega
      obtain ⟨hsx, hlh, hown, hks⟩ := hkr
      rw [htl] at hown hlh
      obtain ⟨av, cv, hv⟩ := own_slice hown
      subst hv
      rcases HI.out with hnil | ⟨b, off, rfl, -, hbW, hcs⟩
      · rw [hnil] at hlt
        exact absurd hlt (by simp)
      obtain ⟨ak, ck, l0, l1, l2, hkd⟩ := hcs k hlt
      have hbz : b < wr.heap.size := by have := hbx.lo.size; omega
      have e0 := (hbx.lo.cell (p := ⟨b, off + k * 3, none⟩) hbW).trans l0
      have e1 := (hbx.lo.cell (p := ⟨b, off + k * 3 + 1, none⟩) hbW).trans l1
      have e2 := (hbx.lo.cell (p := ⟨b, off + k * 3 + 2, none⟩) hbW).trans l2
      have KEl := HTQ.out k hlt ak ck
      have HKd : Hid (Inm h W ak (ks[k]).ks) := hkd
      have htk : ks.take (k + 1) = ks.take k ++ [ks[k]] := List.take_succ_eq_append_getElem hlt
      have HTK : Hid (ks.take (k + 1) = ks.take k ++ [ks[k]] ∧ (ks.take k).length = k) := ⟨htk, htl⟩
      obtain ⟨t', ht'⟩ : ∃ t', t' = ks[k] := ⟨_, rfl⟩
      rw [← ht'] at e0 e1 e2 KEl HKd HTK
      unfold ndV at KEl
      have HKS := (show Hid (∀ j (hj : j < (ks.take k).length), Kd (fun b => W.heap.size + 3 ≤ b ∧ (Value.slice av k cv).ownBlock ≠ some b) h wr (hsx[j]'(by omega)).1 ((ks.take k)[j]).ks) from hks)
      have HOW : Hid (wr.ownsRow (W.heap.size + 3) 30 3 (.slice av k cv) k (ncs (ks.take k) hsx) ∧ hsx.length = k) := ⟨hown, hlh⟩
      have HB : Hid (Bxs W wr q r n x (.slice (some ⟨b, off, none⟩) ks.length c) (.slice av k cv)) := hbx
      have hrow : ∀ j, (Value.slice av k cv).ownBlock = some j → W.heap.size + 3 ≤ j ∧ j < wr.heap.size := fun j hj => ⟨(hown.lt j hj).1, (hown.lt j hj).2⟩
      have hW3 := hbx.sz
      have hInm : Inm h wr ak t'.ks := HKd.out.below hbx.lo
      have hInmD : Inm h wr.drew ak t'.ks := HKd.out.below (hbx.lo.drew)
      have HC := (show Hid (∀ w', Below wr.heap.size wr w' → w'.cell? ⟨p, 2, none⟩ = some (.slice (some ⟨b, off, none⟩) ks.length c) ∧ w'.cell? ⟨r, 2, none⟩ = some (.slice av k cv) ∧ r < w'.heap.size) from fun w' hh => ⟨(hh.cell (p := ⟨p, 2, none⟩) hpz).trans c2, (hh.cell (p := ⟨r, 2, none⟩) hrz).trans r2, by have := hh.size; omega⟩)
      have HNG := (show Hid (∀ X w5, Below wr.heap.size wr X → X.grownBy w5 (Value.slice av k cv).ownBlock → w5.cell? ⟨r, 2, none⟩ = some (.slice av k cv) ∧ w5.frozen? ⟨r, 2, none⟩ = false) from fun X w5 hm hg => by
        have hb := ((HB.out.below hm).grown hg (fun j hj => (hrow j hj).1)).b2
        exact ⟨hb.cells.1.2.2, hb.cells.2.2.2⟩)
      have hkI : (k : Int) < (ks.length : Int) := by omega
      have hk6 : k < 10000000 := by omega
      clear hbx hown hks hkd l0 l1 l2 hb0 htk htl ht' r0 r1
      go_wp2_with fail
      go_region_law
        (first
          | (refine step_append_two rfl (.tmp 18) (.tmp 25) 28 rfl (W.heap.size + 3) 30 i0 (.agg #[.string ⟨#[]⟩, .string ⟨#[]⟩, .slice none 0 0]) 3 56 Tryz.underlying28 hii hz0 hz1 hz2 rfl (by decide) _ _ _ rfl (own_md HOW.out.1 (Md.ofBelow (F := fun _ => False) hmX) (fun j hj e => e)) ⟨w3.heap.size, 0, none⟩ 1 1 [.string ⟨t'.nm.toArray⟩, .string ⟨t'.tx.toArray⟩, .slice a2 t'.ks.length c2] rfl rfl (cell_three_new w3 _ _ _ _) (three_one _ _ _ _ _) (by unfold maxLen; omega) (by omega) hbX ?_; intro v5 w5 hown5 hgrow5 hvb5; have g5 := HNG.out _ w5 hmX hgrow5; have k5 := g5.1; have j5 := g5.2; obtain ⟨a5, c5, rfl⟩ := own_slice hown5)
          | (go_simp; go_at_call 12; (with_reducible refine Calls.mono (KEl _ ?_) ?_); (first | exact hInm | exact hInmD); rintro e w3 ⟨a2, c2, rfl, hkd3, hb3'⟩; have hb3 : Below wr.heap.size wr w3 := (by first | exact hb3' | exact ((Below.refl _ _).drew).trans hb3'); have s3 := HC.out w3 hb3; have r3 := s3.2.1; have z3 := s3.2.2; have hmX : Below wr.heap.size wr (w3.alloc (.cells #[.string ⟨t'.nm.toArray⟩, .string ⟨t'.tx.toArray⟩, .slice a2 t'.ks.length c2] 30)) := hb3.alloc hb3.size _; have hbX : W.heap.size + 3 ≤ (w3.alloc (.cells #[.string ⟨t'.nm.toArray⟩, .string ⟨t'.tx.toArray⟩, .slice a2 t'.ks.length c2] 30)).heap.size := Nat.le_trans hW3 hmX.size))
      all_goals
        have hC5 := ((HB.out.below hmX).grown hgrow5 (fun j hj => (hrow j hj).1)).kids (.slice a5 (k + 1) c5)
        have hK5 : KR 30 (fun b => W.heap.size + 3 ≤ b ∧ (Value.slice a5 (k + 1) c5).ownBlock ≠ some b) h (w5.setCell ⟨r, 2, none⟩ (.slice a5 (k + 1) c5)) (W.heap.size + 3) (.slice a5 (k + 1) c5) (ks.take (k + 1)) := by
          have e := HTK.out.2
          have her := HB.out.er
          rw [HTK.out.1]
          obtain ⟨g, cap, hv, hg1, -⟩ := own_at hown5
          rw [hv] at hown5 hvb5 ⊢
          have hs4 : wr.drew.heap.size = wr.heap.size := rfl
          have h1 : Kd (fun b => W.heap.size + 3 ≤ b ∧ (Value.slice av k cv).ownBlock ≠ some b) h w3 a2 t'.ks := hkd3.mono (fun b hb _ => ⟨by omega, fun e => by have := (hrow b e).2; omega⟩)
          have hX := own_md hown5 ((Md.refl (fun b => b = r) w5).set (.inl rfl) 2 (.slice (some ⟨g, 0, none⟩) (k + 1) cap)) (fun j hj e => by
            simp only [Value.ownBlock, Option.some.injEq] at hj
            omega)
          have hG := kr_grow (ks := ks.take k) (F := fun _ => False) (F2 := fun b => b = r) (L := W.heap.size + 3) (base := W.heap.size + 3) (v := .slice av k cv) (g := g) (cap := cap) (WF := w5.setCell ⟨r, 2, none⟩ (.slice (some ⟨g, 0, none⟩) (k + 1) cap)) (by rw [e]; exact HOW.out.2) HKS.out (h1.md (Md.alloc (Md.refl (fun _ => False) w3) (.cells #[.string ⟨t'.nm.toArray⟩, .string ⟨t'.tx.toArray⟩, .slice a2 t'.ks.length c2] 30)) (fun _ _ _ h => h)) (Md.ofBelow hmX) (fun _ _ _ _ h => h) hgrow5 (by rw [e]; exact hvb5) ((Md.refl _ w5).set (.inl (.inr rfl)) _ _) (fun b h1 e => by omega) (by rw [e]; exact hX)
          rw [e] at hG
          exact hG
        generalize w5.setCell ⟨r, 2, none⟩ (.slice a5 (k + 1) c5) = WF at hC5 hK5 ⊢
        have HZ : Hid (Bxs W WF q r n x (.slice (some ⟨b, off, none⟩) ks.length c) (.slice a5 (k + 1) c5) ∧ KR 30 (fun b => W.heap.size + 3 ≤ b ∧ (Value.slice a5 (k + 1) c5).ownBlock ≠ some b) h WF (W.heap.size + 3) (.slice a5 (k + 1) c5) (ks.take (k + 1))) := ⟨hC5, hK5⟩
        clear hC5 hK5 hown5 hgrow5 hvb5 g5 k5 j5 hmX hbX hb3 hb3' s3 r3 z3 hkd3 e0 e1 e2 r2 rf2
        go_wp2
        exact ⟨⟨k + 1, _, by omega, by go_num, HZ.out.1, HZ.out.2⟩, by simp only [intOf]; omega⟩
    · obtain rfl : k = ks.length := by omega
      rw [List.take_length] at hkr
      obtain ⟨av, cv, hv⟩ := hkr.slice
      subst hv
      obtain ⟨⟨q0, q1, q2⟩, g0, g1, g2⟩ := hbx.b1.cells
      have HZ : Hid (Bxs W wr q r n x (.slice a ks.length c) (.slice av ks.length cv) ∧ Kd (fun b => W.heap.size + 3 ≤ b) (h + 1) wr av ks) := by
        have hk2 : KR 30 (fun b => W.heap.size + 3 ≤ b) h wr (W.heap.size + 3) (.slice av ks.length cv) ks := by
          obtain ⟨hs, hl, ho, hk2⟩ := hkr
          exact ⟨hs, hl, ho, fun j hj => (hk2 j hj).mono (fun b hb _ => hb.1)⟩
        exact ⟨hbx, (hk2.kd (fun b hb _ _ => hb)).2⟩
      have hqr : q ≠ r := by have := hbx.eq; have := hbx.er; omega
      clear hbx hkr hb0
      go_wp2
      have hmq : Md (fun b => b = q) wr (((wr.setCell ⟨q, 0, none⟩ (.string n)).setCell ⟨q, 1, none⟩ (.string x)).setCell ⟨q, 2, none⟩ (.slice av ks.length cv)) := ((((Md.refl (fun b => b = q) _).set (.inl rfl) _ _).set (.inl rfl) _ _).set (.inl rfl) _ _)
      have heq := HZ.out.1.eq
      refine bodyPost_ret (results_cell_row rfl _ _ q 30 #[.string n, .string x, .slice av ks.length cv] (0, 0) _ rfl (HZ.out.1.b1.set _ _ _) Tryz.underlying30 rfl size30) rfl ⟨av, cv, rfl, ?_, ?_⟩
      · exact (HZ.out.2.md hmq (fun b _ hg e => by omega)).mono (fun b hb _ => by omega)
      · exact ((HZ.out.1.lo.setCell (by show _ ≤ q; omega) _).setCell (by show _ ≤ q; omega) _).setCell (by show _ ≤ q; omega) _

theorem toq_allB : ∀ h, ToQB h
  | 0 => fun t a c W hk _ => by
    have hks : t.ks = [] := hk
    refine (to_stepB 0 t a c W (by rw [hks]; exact Kd.nil _ _ _ _) (by rw [hks]; simp) (fun t' ht => by rw [hks] at ht; cases ht)).mono ?_
    rintro e w' ⟨a', c', rfl, -, hb⟩
    exact ⟨a', c', rfl, by rw [hks]; exact Kd.nil _ _ _ _, hb⟩
  | h + 1 => fun t a c W hk hs => to_stepB h t a c W hk hs.1 (fun t' ht a c W' hi => toq_allB h t' a c W' hi (hs.2 t' ht))

def SmQB (h : Nat) : Prop := ∀ (t : Nod) (a b : Option Addr) (c d : Nat) (W : World), Inm h W a t.ks → Inm h W b t.ks → SmlB h t.ks → Calls Tryz.prog 11 #[ndV t a c, ndV t b d] W fun e w' => e = .returned (.bool true) ∧ Below W.heap.size W w'

set_option maxRecDepth 20000 in
set_option maxHeartbeats 3200000 in
theorem same_stepB (h : Nat) (t : Nod) (a b : Option Addr) (c d : Nat) (W : World) (hia : Inm (h + 1) W a t.ks) (hib : Inm (h + 1) W b t.ks) (hlen : t.ks.length ≤ 10000000)
    (HT : ∀ t' ∈ t.ks, ∀ a b c d W', Inm h W' a t'.ks → Inm h W' b t'.ks → Calls Tryz.prog 11 #[ndV t' a c, ndV t' b d] W' fun e w' => e = .returned (.bool true) ∧ Below W'.heap.size W' w') :
    Calls Tryz.prog 11 #[ndV t a c, ndV t b d] W fun e w' => e = .returned (.bool true) ∧ Below W.heap.size W w' := by
  obtain ⟨ks, hks⟩ : ∃ ks, ks = t.ks := ⟨_, rfl⟩
  obtain ⟨n, hn⟩ : ∃ n : ByteArray, n = ⟨t.nm.toArray⟩ := ⟨_, rfl⟩
  obtain ⟨x, hx⟩ : ∃ x : ByteArray, x = ⟨t.tx.toArray⟩ := ⟨_, rfl⟩
  unfold ndV
  rw [← hks] at hia hib hlen HT ⊢
  rw [← hn, ← hx]
  have HI : Hid (Inm (h + 1) W a ks ∧ Inm (h + 1) W b ks) := ⟨hia, hib⟩
  have HTQ := (show Hid (∀ j (hj : j < ks.length), ∀ a b c d W', Inm h W' a (ks[j]).ks → Inm h W' b (ks[j]).ks → Calls Tryz.prog 11 #[ndV (ks[j]) a c, ndV (ks[j]) b d] W' fun e w' => e = .returned (.bool true) ∧ Below W'.heap.size W' w') from fun j hj => HT _ (List.getElem_mem hj))
  obtain ⟨w0, hw0⟩ : ∃ w0, w0 = (W.alloc (.cells #[.string n, .string x, .slice a ks.length c] 30)).alloc (.cells #[.string n, .string x, .slice b ks.length d] 30) := ⟨_, rfl⟩
  have H0 : Hid (w0.cell? ⟨W.heap.size, 2, none⟩ = some (.slice a ks.length c) ∧ w0.cell? ⟨W.heap.size + 1, 2, none⟩ = some (.slice b ks.length d) ∧ Below W.heap.size W w0 ∧ w0.heap.size = W.heap.size + 2) := by
    rw [hw0]
    have e1 : (W.alloc (.cells #[.string n, .string x, .slice a ks.length c] 30)).heap.size = W.heap.size + 1 := by show (W.heap.push _).size = _; simp
    have e2 : ((W.alloc (.cells #[.string n, .string x, .slice a ks.length c] 30)).alloc (.cells #[.string n, .string x, .slice b ks.length d] 30)).heap.size = W.heap.size + 2 := by show ((W.heap.push _).push _).size = _; simp
    have h2 := heap_alloc_new (W.alloc (.cells #[.string n, .string x, .slice a ks.length c] 30)) (.cells #[.string n, .string x, .slice b ks.length d] 30)
    rw [e1] at h2
    refine ⟨?_, cell_blk h2 2, ((Below.refl _ _).alloc (Nat.le_refl _) _).alloc (by omega) _, e2⟩
    exact cell_blk ((Below.heap_alloc _ _ _ (by omega)).trans (heap_alloc_new _ _)) 2
  clear hia hib HT hks hn hx
  go_enter Tryz.func11, Tryz.ntmps11
  go_wp2
  rw [← hw0]
  clear hw0
  generalize hq : W.heap.size + 1 = q at H0 ⊢
  obtain ⟨p, hp⟩ : ∃ p, p = W.heap.size := ⟨_, rfl⟩
  have HQ : Hid (q = W.heap.size + 1 ∧ p = W.heap.size) := ⟨hq.symm, hp⟩
  rw [← hp]
  clear hq hp
  go_loopw [5] (fun i wx => ∃ k : Nat, k ≤ ks.length ∧ i = .int .i64 k ∧ Below w0.heap.size w0 wx) (fun i _ => ks.length - (intOf i).toNat)
  case atStart => exact ⟨0, Nat.zero_le _, rfl, Below.refl _ _⟩
  case round =>
    obtain ⟨k, hkl, rfl, hbl⟩ := hrel
    have hz := hbl.size
    have h2 := H0.out.2.2.2
    have e1 := HQ.out.1
    have e2 := HQ.out.2
    have c2 := (hbl.cell (p := ⟨W.heap.size, 2, none⟩) (by show W.heap.size < _; omega)).trans H0.out.1
    have d2 := (hbl.cell (p := ⟨q, 2, none⟩) (by show q < _; omega)).trans H0.out.2.1
    rw [← e2] at c2
    have hB : Below W.heap.size W wr := H0.out.2.2.1.trans (hbl.mono (by omega))
    have HB : Hid (Below w0.heap.size w0 wr ∧ Below W.heap.size W wr) := ⟨hbl, hB⟩
    by_cases hlt : k < ks.length
    · rcases HI.out.1 with hnil | ⟨ba, oa, rfl, -, hba, hca⟩
      · rw [hnil] at hlt
        exact absurd hlt (by simp)
      rcases HI.out.2 with hnil | ⟨bb, ob, rfl, -, hbb, hcb⟩
      · rw [hnil] at hlt
        exact absurd hlt (by simp)
      obtain ⟨ak, ck, a0, a1, a2, hka⟩ := hca k hlt
      obtain ⟨bk, dk, b0, b1, b2, hkb⟩ := hcb k hlt
      have hc : ∀ (g o : Nat) {v : Value}, g < W.heap.size → W.cell? ⟨g, o, none⟩ = some v → wr.cell? ⟨g, o, none⟩ = some v := fun g o v hg hv => (hB.cell (p := ⟨g, o, none⟩) hg).trans hv
      replace a0 := hc _ _ hba a0
      replace a1 := hc _ _ hba a1
      replace a2 := hc _ _ hba a2
      replace b0 := hc _ _ hbb b0
      replace b1 := hc _ _ hbb b1
      replace b2 := hc _ _ hbb b2
      have KT := HTQ.out k hlt ak bk ck dk
      have HKd : Hid (Inm h W ak (ks[k]).ks ∧ Inm h W bk (ks[k]).ks) := ⟨hka, hkb⟩
      obtain ⟨t', ht'⟩ : ∃ t', t' = ks[k] := ⟨_, rfl⟩
      rw [← ht'] at a0 a1 a2 b0 b1 b2 KT HKd
      unfold ndV at KT
      have hi1 : Inm h wr ak t'.ks ∧ Inm h wr bk t'.ks := ⟨HKd.out.1.below hB, HKd.out.2.below hB⟩
      have hi2 : Inm h wr.drew ak t'.ks ∧ Inm h wr.drew bk t'.ks := ⟨HKd.out.1.below hB.drew, HKd.out.2.below hB.drew⟩
      have hkI : (k : Int) < (ks.length : Int) := by omega
      have hk6 : k < 10000000 := by omega
      have HC := (show Hid (∀ w', Below wr.heap.size wr w' → w'.cell? ⟨p, 2, none⟩ = some (.slice (some ⟨ba, oa, none⟩) ks.length c) ∧ w'.cell? ⟨q, 2, none⟩ = some (.slice (some ⟨bb, ob, none⟩) ks.length d) ∧ w'.cell? ⟨ba, oa + k * 3, none⟩ = some (.string ⟨t'.nm.toArray⟩) ∧ w'.cell? ⟨ba, oa + k * 3 + 1, none⟩ = some (.string ⟨t'.tx.toArray⟩) ∧ w'.cell? ⟨ba, oa + k * 3 + 2, none⟩ = some (.slice ak t'.ks.length ck) ∧ w'.cell? ⟨bb, ob + k * 3, none⟩ = some (.string ⟨t'.nm.toArray⟩) ∧ w'.cell? ⟨bb, ob + k * 3 + 1, none⟩ = some (.string ⟨t'.tx.toArray⟩) ∧ w'.cell? ⟨bb, ob + k * 3 + 2, none⟩ = some (.slice bk t'.ks.length dk)) from fun w' hh => by
        have hcc : ∀ (g o : Nat) {v : Value}, g < wr.heap.size → wr.cell? ⟨g, o, none⟩ = some v → w'.cell? ⟨g, o, none⟩ = some v := fun g o v hg hv => (hh.cell (p := ⟨g, o, none⟩) hg).trans hv
        exact ⟨hcc _ _ (by omega) c2, hcc _ _ (by omega) d2, hcc _ _ (by omega) a0, hcc _ _ (by omega) a1, hcc _ _ (by omega) a2, hcc _ _ (by omega) b0, hcc _ _ (by omega) b1, hcc _ _ (by omega) b2⟩)
      clear e1 e2 h2 hz hbl hB hc hka hkb ht'
      go_wp2_with fail
      go_region_held3 (fun w' => w'.cell? ⟨p, 2, none⟩ = some (.slice (some ⟨ba, oa, none⟩) ks.length c) ∧ w'.cell? ⟨q, 2, none⟩ = some (.slice (some ⟨bb, ob, none⟩) ks.length d) ∧ w'.cell? ⟨ba, oa + k * 3, none⟩ = some (.string ⟨t'.nm.toArray⟩) ∧ w'.cell? ⟨ba, oa + k * 3 + 1, none⟩ = some (.string ⟨t'.tx.toArray⟩) ∧ w'.cell? ⟨ba, oa + k * 3 + 2, none⟩ = some (.slice ak t'.ks.length ck) ∧ w'.cell? ⟨bb, ob + k * 3, none⟩ = some (.string ⟨t'.nm.toArray⟩) ∧ w'.cell? ⟨bb, ob + k * 3 + 1, none⟩ = some (.string ⟨t'.tx.toArray⟩) ∧ w'.cell? ⟨bb, ob + k * 3 + 2, none⟩ = some (.slice bk t'.ks.length dk)) (first | (exact HC.out _ hs1) | (go_keep))
        (first | (go_at_call 11; (with_reducible refine Calls.mono (KT _ ?_ ?_) ?_); (first | exact hi1.1 | exact hi2.1); (first | exact hi1.2 | exact hi2.2); rintro e w1 ⟨rfl, hb1⟩; have hs1 : Below wr.heap.size wr w1 := (by first | exact hb1 | exact ((Below.refl _ _).drew).trans hb1)))
      have H9 : Hid (Below w0.heap.size w0 w1) := HB.out.1.trans (hs1.mono HB.out.1.size)
      clear hs1 hb1 HC c2 d2 a0 a1 a2 b0 b1 b2
      go_wp2
      exact ⟨⟨k + 1, by omega, by go_num, H9.out⟩, by simp only [intOf]; omega⟩
    · obtain rfl : k = ks.length := by omega
      clear e1 e2 h2 hz hbl hB
      go_wp2
      go_ret
      exact ⟨rfl, HB.out.2⟩

theorem smq_allB : ∀ h, SmQB h
  | 0 => fun t a b c d W hk _ _ => by
    have hks : t.ks = [] := hk
    exact same_stepB 0 t a b c d W (by rw [hks]; exact Kd.nil _ _ _ _) (by rw [hks]; exact Kd.nil _ _ _ _) (by rw [hks]; simp) (fun t' ht => by rw [hks] at ht; cases ht)
  | h + 1 => fun t a b c d W hk hk2 hs => same_stepB h t a b c d W hk hk2 hs.1 (fun t' ht a b c d W' hi hi2 => smq_allB h t' a b c d W' hi hi2 (hs.2 t' ht))

theorem smlB_of : ∀ (h : Nat) (ks : List Nod), (elsL ks).length ≤ 10000000 → SmlB h ks
  | 0, _, _ => trivial
  | h + 1, ks, hl => by
    have h1 := els_len ks
    refine ⟨by omega, fun t ht => smlB_of h t.ks ?_⟩
    have h2 := els_mem ht
    have h3 := (el_parts [] t).2.2.2
    omega
theorem lng_of : ∀ (h : Nat) (ks : List Nod), (elsL ks).length ≤ 10000000 → Lng 2513169434916 h ks
  | 0, _, _ => trivial
  | h + 1, ks, hl => by
    have h1 := els_len ks
    refine ⟨by omega, fun t ht => lng_of h t.ks ?_⟩
    have h2 := els_mem ht
    have h3 := (el_parts [] t).2.2.2
    omega
end Go.Proofs.YtohkocknpmnakaaGreatDoor
/-
  Places of lists as keys of a map, where the model may draw whether two of them are one.
-/
namespace Go.Proofs.YtohkocknpmnakaaGreatDoor
open Go.RowKit

/-- A place in a row of cells, not frozen there. -/
def Prm (w : World) (a : Addr) : Prop := (∃ c t fz, w.heap[a.block]? = some (.cells c t fz)) ∧ w.frozen? a = false
theorem Prm.keep {w w' : World} {a : Addr} (h : Prm w a) (hb : w'.heap[a.block]? = w.heap[a.block]?) : Prm w' a := by
  obtain ⟨⟨c, t, fz, h1⟩, h2⟩ := h
  exact ⟨⟨c, t, fz, hb.trans h1⟩, (World.frozen?_of_block hb).trans h2⟩
theorem drewN_zero (w : World) : w.drewN 0 = w := rfl
theorem drew_one (w : World) : w.drew = w.drewN 1 := rfl
theorem same_addr_d (w : World) (a b : Addr) (ha : Prm w a) (hb : Prm w b) : ∃ r n, (sameAddr a b).run Tryz.prog w = .ok r (w.drewN n) := by
  by_cases hbl : a.block = b.block
  · exact ⟨a == b, 0, by simp [sameAddr, hbl, drewN_zero]⟩
  · obtain ⟨⟨ca, ta, ⟨la, ha'⟩, h1⟩, h2⟩ := ha
    obtain ⟨⟨cb, tb, ⟨lb, hb'⟩, h3⟩, h4⟩ := hb
    have e1 : (noView a).run Tryz.prog w = .ok () w := by simp [noView, viewAt, World.shape?, h1]
    have e2 : (noView b).run Tryz.prog w = .ok () w := by simp [noView, viewAt, World.shape?, h3]
    obtain ⟨m, hm⟩ : ∃ m, (mayBeOne a b).run Tryz.prog w = .ok m w := by
      simp only [mayBeOne, stringish, Sem.run_bind]
      simp [h1, h3, h2, h4, World.shape?]
    cases m with
    | false => exact ⟨false, 0, by simp [sameAddr, hbl, h2, e1, e2, hm, drewN_zero]⟩
    | true =>
      refine ⟨(Question.cut (.extern "sameAddr.stringBytes" 2) (w.tape w.drawn (.extern "sameAddr.stringBytes" 2)) == 1), 1, ?_⟩
      simp [sameAddr, hbl, h2, e1, e2, hm]
      rfl
theorem eq91_d (w : World) (a b : Addr) (ha : Prm w a) (hb : Prm w b) : ∃ r n, (Op.equalIn 9999 91 (.pointer (some a)) (.pointer (some b))).run Tryz.prog w = .ok r (w.drewN n) := by
  obtain ⟨r, n, h⟩ := same_addr_d w a b ha hb
  refine ⟨r, n, ?_⟩
  unfold Op.equalIn
  simp [run_underlying Tryz.underlying91, h]
theorem eq104_d (w : World) (a b : Addr) (n m : Int) (ha : Prm w a) (hb : Prm w b) : ∃ r k, (Op.equal 104 (.agg #[.pointer (some a), .int .i64 n]) (.agg #[.pointer (some b), .int .i64 m])).run Tryz.prog w = .ok r (w.drewN k) := by
  have h0 := fun p q w => part91 p q w
  have h1 := fun p q w => part3 p q w
  obtain ⟨r, k, e1⟩ := eq91_d w a b ha hb
  have e2 : ∀ w, (Op.equalIn 9999 3 (.int .i64 n) (.int .i64 m)).run Tryz.prog w = .ok (n == m) w := fun w => run_equalIn_int (P := Tryz.prog) w 9998 3 .i64 .i64 n m Tryz.underlying3
  cases r with
  | false =>
    refine ⟨false, k, ?_⟩
    unfold Op.equal Op.maxDepth Op.equalIn
    simp [run_underlying Tryz.underlying104, h0, h1, e1, Sem.run_bind]
  | true =>
    refine ⟨n == m, k, ?_⟩
    unfold Op.equal Op.maxDepth Op.equalIn
    cases hnm : (n == m) with
    | false => simp [run_underlying Tryz.underlying104, h0, h1, e1, e2, Sem.run_bind, hnm]
    | true => simp [run_underlying Tryz.underlying104, h0, h1, e1, e2, Sem.run_bind, hnm]
/-- Keys of places. -/
def PKz (w : World) (x : MapEntry) : Prop := ∃ a n, x.key = .agg #[.pointer (some a), .int .i64 n] ∧ x.val = .agg #[] ∧ Prm w a
theorem PKz.drewN {w : World} {x : MapEntry} (h : PKz w x) (n : Nat) : PKz (w.drewN n) x := h
theorem find104_d (a : Addr) (n : Int) : ∀ (l : List MapEntry) (i : Nat) (w : World), Prm w a → (∀ x ∈ l, PKz w x) →
    ∃ o k, (Instr.findAsking 104 (.agg #[.pointer (some a), .int .i64 n]) l i).run Tryz.prog w = .ok o (w.drewN k) ∧ (o = none ∨ ∃ j, o = some (j, .agg #[]))
  | [], i, w, _, _ => ⟨none, 0, by simp [Instr.findAsking, drewN_zero], .inl rfl⟩
  | x :: l, i, w, ha, h => by
    obtain ⟨b, m, hk, hv, hb⟩ := h x (by simp)
    obtain ⟨r, k, he⟩ := eq104_d w a b n m ha hb
    cases r with
    | true =>
      refine ⟨_, k, ?_, .inr ⟨i, rfl⟩⟩
      simp only [Instr.findAsking, hk, Sem.run_bind, he]
      simp [hv]
    | false =>
      obtain ⟨o, k2, h1, h2⟩ := find104_d a n l (i + 1) (w.drewN k) ha (fun y hy => h y (by simp [hy]))
      refine ⟨o, k + k2, ?_, h2⟩
      have e2 : (w.drewN k).drewN k2 = w.drewN (k + k2) := by simp [World.drewN, Nat.add_assoc]
      rw [e2] at h1
      simp only [Instr.findAsking, hk, Sem.run_bind, he]
      simp [h1]
theorem look104_d (w : World) (mb : Nat) (es : Array MapEntry) (clock : Nat) (a : Addr) (n : Int) (hb : w.heap[mb]? = some (.map es clock)) (hk : ∀ x ∈ es.toList, PKz w x) (ha : Prm w a) :
    ∃ f k, (Instr.lookup 122 (.map (some mb)) (.agg #[.pointer (some a), .int .i64 n]) true).run Tryz.prog w = .ok (.tuple #[.agg #[], .bool f]) (w.drewN k) := by
  obtain ⟨o, k, h1, rfl | ⟨j, rfl⟩⟩ := find104_d a n es.toList 0 w ha hk
  · refine ⟨false, k, ?_⟩
    unfold Instr.lookup
    simp [run_underlying Tryz.underlying122, Go.MapKept.run_getObj_map hb, check104, findKey104, h1, Sem.run_bind]
  · refine ⟨true, k, ?_⟩
    unfold Instr.lookup
    simp [run_underlying Tryz.underlying122, Go.MapKept.run_getObj_map hb, check104, findKey104, h1, Sem.run_bind]
theorem stays_d (old new : Value) (w : World) : ∃ v k, (Instr.keyThatStays old new).run Tryz.prog w = .ok v (w.drewN k) ∧ (v = old ∨ v = new) := by
  by_cases h : Instr.sameBits 10000 old new = true
  · exact ⟨new, 0, by simp [Instr.keyThatStays, h, drewN_zero], .inr rfl⟩
  · by_cases h2 : Question.cut (.extern "map.whichKeyStays" 2) (w.tape w.drawn (.extern "map.whichKeyStays" 2)) = 0
    · exact ⟨new, 1, by simp [Instr.keyThatStays, h, h2]; rfl, .inr rfl⟩
    · exact ⟨old, 1, by simp [Instr.keyThatStays, h, h2]; rfl, .inl rfl⟩
theorem store104_d (w : World) (mb : Nat) (es : Array MapEntry) (clock : Nat) (a : Addr) (n : Int) (hb : w.heap[mb]? = some (.map es clock)) (hk : ∀ x ∈ es.toList, PKz w x) (ha : Prm w a) :
    ∃ es' clock' w2, (Instr.mapUpdate 122 (.map (some mb)) (.agg #[.pointer (some a), .int .i64 n]) (.agg #[])).run Tryz.prog w = .ok () w2 ∧ w2.heap = w.heap.setIfInBounds mb (.map es' clock') ∧ w2.os = w.os ∧ w2.tape = w.tape ∧ w2.output = w.output ∧ ∀ x ∈ es'.toList, x.val = .agg #[] ∧ (x.key = .agg #[.pointer (some a), .int .i64 n] ∨ ∃ y ∈ es.toList, x.key = y.key) := by
  have hset : ∀ (k : Nat) (o : Obj), (setObj mb o).run Tryz.prog (w.drewN k) = .ok () { w.drewN k with heap := (w.drewN k).heap.setIfInBounds mb o } := fun k o => Go.MapKept.run_setObj_map (w := w.drewN k) (es := es) (clock := clock) o hb
  have hval : ∀ x ∈ es.toList, x.val = .agg #[] := fun x hx => by
    obtain ⟨_, _, _, h, _⟩ := hk x hx
    exact h
  obtain ⟨o, k, h1, rfl | ⟨j, rfl⟩⟩ := find104_d a n es.toList 0 w ha hk
  · refine ⟨es.push { key := .agg #[.pointer (some a), .int .i64 n], val := .agg #[], born := clock }, clock + 1, { w.drewN k with heap := (w.drewN k).heap.setIfInBounds mb _ }, ?_, rfl, rfl, rfl, rfl, ?_⟩
    · unfold Instr.mapUpdate
      simp [run_underlying Tryz.underlying122, Go.MapKept.run_getObj_map hb, check104, findKey104, h1, hset, Sem.run_bind]
    · intro x hx
      rw [Array.toList_push] at hx
      rcases List.mem_append.1 hx with hx | hx
      · exact ⟨hval x hx, .inr ⟨x, hx, rfl⟩⟩
      · rw [List.mem_singleton.1 hx]
        exact ⟨rfl, .inl rfl⟩
  · obtain ⟨v, k2, h2, h3⟩ := stays_d (((es[j]?).map (·.key)).getD (.agg #[.pointer (some a), .int .i64 n])) (.agg #[.pointer (some a), .int .i64 n]) (w.drewN k)
    have hset2 := hset (k + k2)
    have e2 : (w.drewN k).drewN k2 = w.drewN (k + k2) := by simp [World.drewN, Nat.add_assoc]
    rw [e2] at h2
    refine ⟨es.modify j fun e => { e with key := v, val := .agg #[] }, clock, { w.drewN (k + k2) with heap := (w.drewN (k + k2)).heap.setIfInBounds mb _ }, ?_, rfl, rfl, rfl, rfl, ?_⟩
    · unfold Instr.mapUpdate
      simp only [run_underlying Tryz.underlying122, Go.MapKept.run_getObj_map hb, check104, findKey104, h1, Sem.run_bind, Result.andThen, h2, hset2]
    · have hv : v = .agg #[.pointer (some a), .int .i64 n] ∨ ∃ y ∈ es.toList, v = y.key := by
        rcases h3 with rfl | rfl
        · cases hj : es[j]? with
          | none => exact .inl rfl
          | some x =>
            refine .inr ⟨x, ?_, rfl⟩
            rw [← Array.getElem?_toList] at hj
            exact List.mem_of_getElem? hj
        · exact .inl rfl
      intro x hx
      obtain ⟨i, hi, rfl⟩ := List.getElem_of_mem hx
      simp only [Array.getElem_toList, Array.getElem_modify]
      split
      · exact ⟨rfl, hv⟩
      · have hm : es[i]'(by simpa using hi) ∈ es.toList := by rw [← Array.getElem_toList]; exact List.getElem_mem _
        exact ⟨hval _ hm, .inr ⟨_, hm, rfl⟩⟩
end Go.Proofs.YtohkocknpmnakaaGreatDoor
/-
  below, where the model may draw: the state of its loops.
-/
namespace Go.Proofs.YtohkocknpmnakaaGreatDoor
open Go.RowKit

/-- Elements in memory, in rows that are not frozen where they begin. -/
def Kz : Nat → World → Option Addr → List Nod → Prop
  | 0, _, _, ks => ks = []
  | h + 1, w, a, ks => ks = [] ∨ ∃ b off, a = some ⟨b, off, none⟩ ∧ Prm w ⟨b, off, none⟩ ∧ b < w.heap.size ∧ ∀ j (hj : j < ks.length), ∃ a' c',
      w.cell? ⟨b, off + j * 3, none⟩ = some (.string ⟨(ks[j]).nm.toArray⟩) ∧ w.cell? ⟨b, off + j * 3 + 1, none⟩ = some (.string ⟨(ks[j]).tx.toArray⟩) ∧ w.cell? ⟨b, off + j * 3 + 2, none⟩ = some (.slice a' (ks[j]).ks.length c') ∧ Kz h w a' (ks[j]).ks
theorem Kz.nil (h : Nat) (w : World) (a : Option Addr) : Kz h w a [] := by
  cases h with
  | zero => rfl
  | succ h => exact .inl rfl
theorem Kz.below {w w' : World} (hb : Below w.heap.size w w') : ∀ {h : Nat} {a : Option Addr} {ks : List Nod}, Kz h w a ks → Kz h w' a ks
  | 0, _, _, h => h
  | h + 1, a, ks, hi => by
    rcases hi with hi | ⟨b, off, h1, h2, h3, h4⟩
    · exact .inl hi
    · refine .inr ⟨b, off, h1, h2.keep (hb.block b h3), Nat.lt_of_lt_of_le h3 hb.size, fun j hj => ?_⟩
      obtain ⟨a', c', k1, k2, k3, k4⟩ := h4 j hj
      have hc : ∀ o, w'.cell? ⟨b, o, none⟩ = w.cell? ⟨b, o, none⟩ := fun o => hb.cell (p := ⟨b, o, none⟩) h3
      exact ⟨a', c', (hc _).trans k1, (hc _).trans k2, (hc _).trans k3, Kz.below hb k4⟩
theorem Kz.kd {w : World} : ∀ {h : Nat} {a : Option Addr} {ks : List Nod}, Kz h w a ks → Kd (fun b => b < w.heap.size) h w a ks
  | 0, _, _, h => h
  | h + 1, a, ks, hi => by
    rcases hi with hi | ⟨b, off, h1, h2, h3, h4⟩
    · exact .inl hi
    · refine .inr ⟨b, off, h1, h3, h3, fun j hj => ?_⟩
      obtain ⟨a', c', k1, k2, k3, k4⟩ := h4 j hj
      exact ⟨a', c', k1, k2, k3, Kz.kd k4⟩
theorem Kz.head {h : Nat} {w : World} {a : Option Addr} {ks : List Nod} (hi : Kz h w a ks) (hne : ks ≠ []) : ∃ b off, a = some ⟨b, off, none⟩ ∧ Prm w ⟨b, off, none⟩ ∧ b < w.heap.size := by
  cases h with
  | zero => exact absurd hi hne
  | succ h =>
    rcases hi with hi | ⟨b, off, rfl, hc, hb, -⟩
    · exact absurd hi hne
    · exact ⟨b, off, rfl, hc, hb⟩
def Lz (h : Nat) (w : World) (v : Value) (L : List (List Nod)) : Prop :=
  ∃ a c, v = .slice a L.length c ∧ (L = [] ∨ ∃ g off, a = some ⟨g, off, none⟩ ∧ g < w.heap.size ∧ ∀ j (hj : j < L.length), ∃ b o cj, w.cell? ⟨g, off + j, none⟩ = some (.slice (some ⟨b, o, none⟩) (L[j]).length cj) ∧ Kz h w (some ⟨b, o, none⟩) L[j])
def PKW (W : World) (k : Value) : Prop := ∃ a n, k = .agg #[.pointer (some a), .int .i64 n] ∧ Prm W a ∧ a.block < W.heap.size
structure BZ (h : Nat) (W w : World) (mb : Nat) (v : Value) (D : List Nod) (L' : List (List Nod)) : Prop where
  lo : Below W.heap.size W w
  row : ∃ hs : List (Nat × Nat × Nat), hs.length = L'.length ∧ w.ownsRow (W.heap.size + 1) 22 1 v L'.length (lcs L' hs) ∧ ∀ j (hj : j < L'.length) (hj' : j < hs.length), Kz h W (some ⟨(hs[j]).1, (hs[j]).2.1, none⟩) L'[j]
  mp : ∃ es clock, w.heap[mb]? = some (.map es clock) ∧ ∀ x ∈ es.toList, x.val = .agg #[] ∧ PKW W x.key
  mb : mb = W.heap.size
  sz : W.heap.size + 1 ≤ w.heap.size
  sub : L'.Sublist (D.map Nod.ks)
  ne : ∀ l ∈ L', l ≠ []
theorem BZ.start (h : Nat) (W : World) : BZ h W (W.alloc (.map #[] 0)) W.heap.size (.slice none 0 0) [] [] := by
  refine ⟨(Below.refl _ _).alloc (Nat.le_refl _) _, ⟨[], rfl, World.ownsRow_nil _ _ _ _, fun j hj => by simp at hj⟩, ⟨#[], 0, heap_alloc_new _ _, by simp⟩, rfl, ?_, by simp, by simp⟩
  show _ ≤ (W.heap.push _).size
  simp
theorem BZ.below {h : Nat} {W w w' : World} {mb : Nat} {v : Value} {D : List Nod} {L' : List (List Nod)} (b : BZ h W w mb v D L') (hb : Below w.heap.size w w') : BZ h W w' mb v D L' := by
  obtain ⟨es, clock, hm, hk⟩ := b.mp
  obtain ⟨hs, hl, hr, hi⟩ := b.row
  exact ⟨b.lo.trans (hb.mono b.lo.size), ⟨hs, hl, own_md hr (Md.ofBelow (F := fun _ => False) hb) (fun j hj e => e), hi⟩, ⟨es, clock, (hb.block mb (blk_lt hm)).trans hm, hk⟩, b.mb, Nat.le_trans b.sz hb.size, b.sub, b.ne⟩
theorem BZ.skip {h : Nat} {W w : World} {mb : Nat} {v : Value} {D : List Nod} {L' : List (List Nod)} (b : BZ h W w mb v D L') (t : Nod) : BZ h W w mb v (D ++ [t]) L' := by
  refine ⟨b.lo, b.row, b.mp, b.mb, b.sz, ?_, b.ne⟩
  rw [List.map_append]
  exact b.sub.trans (List.sublist_append_left _ _)
theorem BZ.look {h : Nat} {W w : World} {mb : Nat} {v : Value} {D : List Nod} {L' : List (List Nod)} (bz : BZ h W w mb v D L') (t : Nod) (hne : t.ks ≠ []) {b off : Nat} (hi : Kz h W (some ⟨b, off, none⟩) t.ks) :
    ∃ f k, (Instr.lookup 122 (.map (some mb)) (.agg #[.pointer (some ⟨b, off, none⟩), .int .i64 (t.ks.length : Int)]) true).run Tryz.prog w = .ok (.tuple #[.agg #[], .bool f]) (w.drewN k) ∧
      ∀ w', Below w.heap.size w w' → ∃ w2, (Instr.mapUpdate 122 (.map (some mb)) (.agg #[.pointer (some ⟨b, off, none⟩), .int .i64 (t.ks.length : Int)]) (.agg #[])).run Tryz.prog w' = .ok () w2 ∧ w2.heap.size = w'.heap.size ∧ (∀ k, k ≠ mb → w2.heap[k]? = w'.heap[k]?) ∧ BZ h W w2 mb v D L' := by
  obtain ⟨es, clock, hm, hk⟩ := bz.mp
  obtain ⟨b1, o1, e, hp, hlt⟩ := hi.head hne
  simp only [Option.some.injEq, Addr.mk.injEq, and_true] at e
  obtain ⟨rfl, rfl⟩ := e
  have hpw : ∀ w', Below W.heap.size W w' → Prm w' ⟨b, off, none⟩ := fun w' hb => hp.keep (hb.block b hlt)
  have hpk : ∀ w', Below W.heap.size W w' → ∀ x ∈ es.toList, PKz w' x := by
    intro w' hb x hx
    obtain ⟨h1, a, n, h2, h3, h4⟩ := hk x hx
    exact ⟨a, n, h2, h1, h3.keep (hb.block _ h4)⟩
  obtain ⟨f, k, h1⟩ := look104_d w mb es clock ⟨b, off, none⟩ (t.ks.length : Int) hm (hpk w bz.lo) (hpw w bz.lo)
  refine ⟨f, k, h1, fun w' hb => ?_⟩
  have bz' := bz.below hb
  have hm' := (hb.block mb (blk_lt hm)).trans hm
  obtain ⟨es', clock', w2, hst, hh, ho, ht, hout, hk'⟩ := store104_d w' mb es clock ⟨b, off, none⟩ (t.ks.length : Int) hm' (hpk w' bz'.lo) (hpw w' bz'.lo)
  have hset := Go.MapKept.heap_set (o' := Obj.map es' clock') hm'
  have hsz : w2.heap.size = w'.heap.size := by rw [hh]; simp
  have hoth : ∀ k, k ≠ mb → w2.heap[k]? = w'.heap[k]? := by rw [hh]; exact hset.2
  refine ⟨w2, hst, hsz, hoth, ?_⟩
  have hmd : Md (fun k => k = mb) w' w2 := ⟨ho, ht, hout, by omega, fun k _ hk => hoth k hk⟩
  have hmb := bz'.mb
  obtain ⟨hs, hl, hr, hi'⟩ := bz'.row
  refine ⟨Md.toBelow bz'.lo hmd (fun k hk e => by omega) (Nat.le_refl _), ⟨hs, hl, own_md hr hmd (fun j hj e => by have := (hr.lt j hj).1; omega), hi'⟩, ⟨es', clock', by rw [hh]; exact hset.1, fun x hx => ?_⟩, hmb, by have := bz'.sz; omega, bz'.sub, bz'.ne⟩
  obtain ⟨e1, e2 | ⟨y, hy, e2⟩⟩ := hk' x hx
  · exact ⟨e1, _, _, e2, hp, hlt⟩
  · rw [e2]
    exact ⟨e1, (hk y hy).2⟩
theorem BZ.grow {h : Nat} {W w w' : World} {mb : Nat} {v v' : Value} {D : List Nod} {L' : List (List Nod)} {b off c : Nat} {t : Nod} (bz : BZ h W w mb v D L') (hne : t.ks ≠ []) (hi : Kz h W (some ⟨b, off, none⟩) t.ks) {hs : List (Nat × Nat × Nat)} (hl : hs.length = L'.length) (hinc : ∀ j (hj : j < L'.length) (hj' : j < hs.length), Kz h W (some ⟨(hs[j]).1, (hs[j]).2.1, none⟩) L'[j]) (hr : w.ownsRow (W.heap.size + 1) 22 1 v L'.length (lcs L' hs))
    (hg : w.grownBy w' v.ownBlock) (ho : w'.ownsRow (W.heap.size + 1) 22 1 v' (L'.length + 1) (lcs L' hs ++ [.slice (some ⟨b, off, none⟩) t.ks.length c])) : BZ h W w' mb v' (D ++ [t]) (L' ++ [t.ks]) := by
  have hmb := bz.mb
  have hmd := Md.ofGrown hg
  have hrow : ∀ j, v.ownBlock = some j → W.heap.size + 1 ≤ j := fun j hj => (hr.lt j hj).1
  refine ⟨?_, ⟨hs ++ [(b, off, c)], by simp [hl], ?_, ?_⟩, ?_, hmb, by have := bz.sz; have := hmd.size; omega, ?_, ?_⟩
  · exact bz.lo.grown hg (by have := bz.sz; omega) (fun k e => by have := hrow k e; omega)
  · rw [lcs_app _ _ _ _ hl, List.length_append]
    exact ho
  · intro j hj hj'
    simp only [List.length_append, List.length_cons, List.length_nil] at hj
    by_cases hj2 : j < L'.length
    · simp only [List.getElem_append_left hj2, List.getElem_append_left (show j < hs.length by omega)]
      exact hinc j hj2 (by omega)
    · obtain rfl : j = L'.length := by omega
      have e1 : (L' ++ [t.ks])[L'.length]'(by simp) = t.ks := by simp
      have e2 : (hs ++ [(b, off, c)])[L'.length]'(by simp [hl]) = (b, off, c) := by simp [← hl]
      rw [e1, e2]
      exact hi
  · obtain ⟨es, clock, hm, hk⟩ := bz.mp
    exact ⟨es, clock, keep_blk hm hmd (fun e => by have := hrow _ e; omega), hk⟩
  · rw [List.map_append]
    exact List.Sublist.append bz.sub (List.Sublist.refl _)
  · intro l hl
    rcases List.mem_append.1 hl with hl | hl
    · exact bz.ne l hl
    · rw [List.mem_singleton.1 hl]; exact hne
theorem BZ.lv {h : Nat} {W w : World} {mb : Nat} {v : Value} {D : List Nod} {L' : List (List Nod)} (bz : BZ h W w mb v D L') : Lz h w v L' := by
  obtain ⟨hs, hl, hr, hi⟩ := bz.row
  have h0 := hr
  obtain ⟨hx, ⟨h1, h2⟩ | ⟨g, cap, cur, h1, h2, h3, h4, h5, h6, h7⟩⟩ := h0
  · refine ⟨none, 0, ?_, .inl (List.eq_nil_of_length_eq_zero h2)⟩
    rw [h1, h2]
  · refine ⟨_, _, h1, .inr ⟨g, 0, rfl, blk_lt h3, fun j hj => ?_⟩⟩
    have hj' : j < hs.length := by rw [hl]; exact hj
    have hc := hr
    rw [h1] at hc
    have hcell := hc.cellAt j (by omega)
    rw [lcs_get L' hs j hj hj'] at hcell
    refine ⟨(hs[j]).1, (hs[j]).2.1, (hs[j]).2.2, ?_, (hi j hj hj').below bz.lo⟩
    rw [Nat.zero_add]; exact hcell
end Go.Proofs.YtohkocknpmnakaaGreatDoor
/-
  below, printable and Print end, of every element, where the model may draw.
-/
namespace Go.Proofs.YtohkocknpmnakaaGreatDoor
open Go.RowKit

def BeT (h : Nat) (L : List (List Nod)) (W : World) (e : Ending) (w' : World) : Prop :=
  Below W.heap.size W w' ∧ (e = .returned (.tuple #[.slice none 0 0, .bool false]) ∨
    ∃ v' L', e = .returned (.tuple #[v', .bool true]) ∧ Lz h w' v' L' ∧ L'.Sublist (L.flatten.map Nod.ks) ∧ ∀ l ∈ L', l ≠ [])

set_option maxRecDepth 20000 in
set_option maxHeartbeats 3200000 in
theorem below_tot (h : Nat) (v : Value) (L : List (List Nod)) (W : World) (hL : Lz (h + 1) W v L) (hne : ∀ l ∈ L, l ≠ []) (hS : SL L ≤ 1000000000) :
    Calls Tryz.prog 67 #[v] W (BeT h L W) := by
  obtain ⟨i0, hii, hz0, hz1, hz2⟩ := info_parts info22
  obtain ⟨a, c, rfl, hL⟩ := hL
  have HL : Hid (L = [] ∨ ∃ g off, a = some ⟨g, off, none⟩ ∧ g < W.heap.size ∧ ∀ j (hj : j < L.length), ∃ b o cj, W.cell? ⟨g, off + j, none⟩ = some (.slice (some ⟨b, o, none⟩) (L[j]).length cj) ∧ Kz (h + 1) W (some ⟨b, o, none⟩) L[j]) := hL
  have HS : Hid (SL L ≤ 1000000000) := hS
  have hLl : L.length ≤ 1000000000 := Nat.le_trans (SL_len hne) hS
  have KS := (show Hid (∀ (l : List Nod) (t : Nod), l ∈ L → t ∈ l → ∀ a c w, Calls Tryz.prog 88 #[ndV t a c] w fun e w' => e = .returned (.bool (sndB t)) ∧ Below w.heap.size w w') from fun l t hl ht a c w => by
    have := SL_node hS hl ht
    exact sound_any t a c w this.1 this.2.1 this.2.2)
  clear hL hne hS
  go_enter Tryz.func67, Tryz.ntmps67
  have hmk := run_makeMap (P := Tryz.prog) 122 W
  obtain ⟨wm, hwm⟩ : ∃ wm, wm = W.alloc (.map #[] 0) := ⟨_, rfl⟩
  obtain ⟨mb, hmb⟩ : ∃ mb, mb = W.heap.size := ⟨_, rfl⟩
  have HM : Hid (BZ h W wm mb (.slice none 0 0) [] []) := by rw [hwm, hmb]; exact BZ.start h W
  rw [← hwm, ← hmb] at hmk
  clear hwm hmb
  go_wp2
  go_loopw [4, 16] (fun u i wx => ∃ (k : Nat) (L' : List (List Nod)) (v : Value), k ≤ L.length ∧ i = .int .i64 k ∧ v = u ∧ BZ h W wx mb v (L.take k).flatten L') (fun _ i _ => L.length - (intOf i).toNat)
  case atStart => exact ⟨0, [], _, Nat.zero_le _, rfl, rfl, HM.out⟩
  case round =>
    obtain ⟨k, L', v, hkl, rfl, rfl, hbi⟩ := hrel
    by_cases hlt : k < L.length
    · rcases HL.out with hnil | ⟨g, off, rfl, hgW, hcs⟩
      · rw [hnil] at hlt
        exact absurd hlt (by simp)
      obtain ⟨b, o, cj, hc, hinc⟩ := hcs k hlt
      have hcW := (hbi.lo.cell (p := ⟨g, off + k, none⟩) hgW).trans hc
      have hlen := SL_list HS.out (List.getElem_mem hlt)
      have HKT := (show Hid (∀ t ∈ L[k], ∀ a c w, Calls Tryz.prog 88 #[ndV t a c] w fun e w' => e = .returned (.bool (sndB t)) ∧ Below w.heap.size w w') from fun t ht => KS.out _ t (List.getElem_mem hlt) ht)
      have HFD := (show Hid ((L.take k).flatten ++ (L[k]).take (L[k]).length = (L.take (k + 1)).flatten) from flat_done hlt)
      have HIN : Hid (Kz (h + 1) W (some ⟨b, o, none⟩) L[k]) := hinc
      have HMEM := (show Hid (∀ t ∈ L[k], t ∈ L.flatten) from fun t ht => List.mem_flatten.2 ⟨_, List.getElem_mem hlt, ht⟩)
      have HBI : Hid (BZ h W wr mb v (L.take k).flatten L') := hbi
      have hkbd := flat_len_SL L
      have hSo := HS.out
      have HFL : Hid (((L.take k).flatten ++ L[k]).length ≤ 1000000000) := by
        have e : (L.take k).flatten ++ L[k] = (L.take (k + 1)).flatten := by have := flat_done hlt; rwa [List.take_length] at this
        have h2 : (L.take (k + 1)).flatten.length ≤ L.flatten.length := by
          conv => rhs; rw [← List.take_append_drop (k + 1) L, List.flatten_append, List.length_append]
          omega
        show _ ≤ _
        rw [e]
        omega
      generalize hl0 : L[k] = l at *
      generalize (L.take k).flatten = D at *
      obtain ⟨wo, e⟩ : ∃ x, x = wr := ⟨_, rfl⟩
      subst e
      clear hbi hcs hc hinc hl0 hkbd hSo HM
      go_wp2
      go_loopw [4, 22] (fun u i wx => ∃ (j : Nat) (L' : List (List Nod)) (v : Value), j ≤ l.length ∧ i = .int .i64 j ∧ v = u ∧ BZ h W wx mb v (D ++ l.take j) L') (fun _ i _ => l.length - (intOf i).toNat)
      case atStart => exact ⟨0, L', _, Nat.zero_le _, rfl, rfl, by rw [List.take_zero, List.append_nil]; exact HBI.out⟩
      case round =>
        clear hcW HBI
        obtain ⟨j, L', v, hjl, rfl, rfl, hbi⟩ := hrel
        by_cases hlj : j < l.length
        · rcases HIN.out with hnil | ⟨b', o', he, hcl, hbW, hcs⟩
          · rw [hnil] at hlj
            exact absurd hlj (by simp)
          simp only [Option.some.injEq, Addr.mk.injEq, and_true] at he
          obtain ⟨rfl, rfl⟩ := he
          obtain ⟨ak, ck, l0, l1, l2, hkd⟩ := hcs j hlj
          have hlo := hbi.lo
          have e0 := (hlo.cell (p := ⟨b, o + j * 3, none⟩) hbW).trans l0
          have e1 := (hlo.cell (p := ⟨b, o + j * 3 + 1, none⟩) hbW).trans l1
          have e2 := (hlo.cell (p := ⟨b, o + j * 3 + 2, none⟩) hbW).trans l2
          have KT := HKT.out _ (List.getElem_mem hlj) ak ck
          have HTK : Hid (D ++ l.take (j + 1) = (D ++ l.take j) ++ [l[j]]) := by
            show _ = _
            rw [List.take_succ_eq_append_getElem hlj, List.append_assoc]
          have HMT : Hid (l[j] ∈ L.flatten) := HMEM.out _ (List.getElem_mem hlj)
          have HKD : Hid (Kz h W ak (l[j]).ks) := hkd
          have hklen : (l[j]).ks.length ≤ 1000000000 := by
            have h1 := HMEM.out _ (List.getElem_mem hlj)
            obtain ⟨l2, hl2, ht2⟩ := List.mem_flatten.1 h1
            exact (SL_node HS.out hl2 ht2).2.2
          have HLB : Hid (L'.length ≤ 1000000000) := by
            have h1 := hbi.sub.length_le
            have h2 := HFL.out
            simp only [List.length_map, List.length_append, List.length_take] at h1 h2
            show _ ≤ _
            omega
          generalize l[j] = t at *
          unfold ndV at KT
          obtain ⟨wa, hwa⟩ : ∃ wa, wa = wr.alloc (.cells #[.string ⟨t.nm.toArray⟩, .string ⟨t.tx.toArray⟩, .slice ak t.ks.length ck] 24) := ⟨_, rfl⟩
          have HA : Hid (BZ h W wa mb v (D ++ l.take j) L' ∧ Bx wa wr.heap.size t.nm t.tx (.slice ak t.ks.length ck)) := by
            rw [hwa]
            exact ⟨hbi.below ((Below.refl _ _).alloc (Nat.le_refl _) _), heap_alloc_new _ _⟩
          have hjI : (j : Int) < (l.length : Int) := by omega
          have hj9 : j ≤ 1000000000 := by omega
          clear hbi hlo l0 l1 l2 hkd hcs
          go_wp2_with fail
          rw [← hwa]
          clear hwa
          refine (KT _).mono ?_
          rintro e w1 ⟨rfl, hb1⟩
          obtain ⟨q, hq⟩ : ∃ q, q = wr.heap.size := ⟨_, rfl⟩
          rw [← hq] at HA
          rw [← hq]
          have hbi1 := HA.out.1.below hb1
          have hbx1 := HA.out.2.keep (Md.ofBelow (F := fun _ => False) hb1) (fun h => h)
          have HB1 : Hid (BZ h W w1 mb v (D ++ l.take j) L' ∧ Bx w1 q t.nm t.tx (.slice ak t.ks.length ck)) := ⟨hbi1, hbx1⟩
          have d2 : w1.cell? ⟨q, 2, none⟩ = some (.slice ak t.ks.length ck) := cell_blk hbx1 2
          clear hb1 hbi1 hbx1 hq HA KT e0 e1 e2
          obtain ⟨S, hS⟩ : ∃ S, S = sndB t := ⟨_, rfl⟩
          rw [← hS]
          cases S with
          | false =>
            have HZ : Hid (BeT h L W (.returned (.tuple #[.slice none 0 0, .bool false])) w1) := ⟨HB1.out.1.lo, .inl rfl⟩
            clear hS
            go_wp2
            go_ret2
            exact HZ.out
          | true =>
            have HSN : Hid (sndB t = true) := hS.symm
            clear hS
            by_cases hk0 : t.ks = []
            · have hz : t.ks.length = 0 := by rw [hk0]; rfl
              rw [hz] at d2
              have HZ : Hid (BZ h W w1 mb v (D ++ l.take (j + 1)) L') := by
                show BZ _ _ _ _ _ _ _
                rw [HTK.out]
                exact HB1.out.1.skip t
              clear hk0 hz
              go_wp2
              go_roundw
              case rel => first | exact ⟨j + 1, L', _, by omega, by go_num, rfl, HZ.out⟩ | ((repeat apply Exists.intro); exact ⟨⟨j + 1, L', _, by omega, by go_num, rfl, HZ.out⟩, rfl⟩)
              case measure => simp [intOf]; omega
            · obtain ⟨b1, o1, rfl, -, -⟩ := HKD.out.head hk0
              have hpos : 0 < t.ks.length := List.length_pos_iff.2 hk0
              have hk0b : ((t.ks.length : Int) == 0) = false := by
                rw [beq_eq_false_iff_ne]
                omega
              have KP := (show Hid (Calls Tryz.prog 70 #[.slice (.some ⟨b1, o1, none⟩) t.ks.length ck] w1 fun e w' => e = .returned (.agg #[.pointer (.some ⟨b1, o1, none⟩), .int .i64 t.ks.length]) ∧ Below w1.heap.size w1 w') from place_any b1 o1 t.ks.length ck w1 hpos hklen)
              go_wp2_with fail
              refine KP.out.mono ?_
              rintro e w2 ⟨rfl, hb2⟩
              obtain ⟨w3, hw3⟩ : ∃ w3, w3 = w2.alloc (.cells #[.pointer (.some ⟨b1, o1, none⟩), .int .i64 t.ks.length] 104) := ⟨_, rfl⟩
              obtain ⟨p, hp⟩ : ∃ p, p = w2.heap.size := ⟨_, rfl⟩
              have hb13 : Below w1.heap.size w1 w3 := by
                rw [hw3]
                exact hb2.alloc hb2.size _
              have hbx3 : w3.heap[p]? = .some (.cells #[.pointer (.some ⟨b1, o1, none⟩), .int .i64 t.ks.length] 104 (0, 0)) := by
                rw [hw3, hp]
                exact heap_alloc_new _ _
              have hbi3 := HB1.out.1.below hb13
              have hq3 := HB1.out.2.keep (Md.ofBelow (F := fun _ => False) hb13) (fun h => h)
              have p0 := cell_blk hbx3 0
              have p1 := cell_blk hbx3 1
              simp only [List.getElem?_toArray] at p0 p1
              have hpq : p < w3.heap.size := blk_lt hbx3
              have hLL := HLB.out
              clear KP hb2 hb13 d2
              obtain ⟨fnd, kd, hlk, hup⟩ := hbi3.look t hk0 HKD.out
              cases fnd with
              | true =>
                have HZ : Hid (BZ h W ((w3.drewN kd).alloc (.cells #[] 123)) mb v (D ++ l.take (j + 1)) L') := by
                  show BZ _ _ _ _ _ _ _
                  rw [HTK.out]
                  exact (hbi3.skip t).below ((below_drewN (Below.refl _ _) _).alloc (Nat.le_refl _) _)
                clear hbi3 hq3 hbx3 hup
                rw [hw3] at hlk
                rw [hw3] at HZ
                clear hpq p0 p1 hw3 hp
                go_wp2
                go_roundw
                case rel => first | exact ⟨j + 1, L', _, by omega, by go_num, rfl, HZ.out⟩ | ((repeat apply Exists.intro); exact ⟨⟨j + 1, L', _, by omega, by go_num, rfl, HZ.out⟩, rfl⟩)
                case measure => simp [intOf]; omega
              | false =>
                have hw4 : Below w3.heap.size w3 ((w3.drewN kd).alloc (.cells #[] 123)) := (below_drewN (Below.refl _ _) _).alloc (Nat.le_refl _) _
                obtain ⟨w5, hup5, hsz5, hoth5, bj⟩ := hup ((w3.drewN kd).alloc (.cells #[] 123)) hw4
                obtain ⟨hs, hhl, hrow5, hinc5⟩ := bj.row
                have hqm : q ≠ mb := by
                  rintro rfl
                  obtain ⟨es3, cl3, hm3, -⟩ := hbi3.mp
                  have e := hq3.symm.trans hm3
                  simp at e
                have hq5 : Bx w5 q t.nm t.tx (.slice (.some ⟨b1, o1, none⟩) t.ks.length ck) := (hoth5 q hqm).trans (hq3.keep (Md.ofBelow (F := fun _ => False) hw4) (fun h => h))
                have q2 : w5.cell? ⟨q, 2, none⟩ = .some (.slice (.some ⟨b1, o1, none⟩) t.ks.length ck) := cell_blk hq5 2
                have hown := hrow5.alloc (.cells #[.slice (.some ⟨b1, o1, none⟩) t.ks.length ck] 22)
                have hbase : W.heap.size + 1 ≤ (w5.alloc (.cells #[.slice (.some ⟨b1, o1, none⟩) t.ks.length ck] 22)).heap.size := by
                  have h1 := bj.sz
                  show _ ≤ (w5.heap.push _).size
                  simp
                  omega
                have HBJ : Hid (BZ h W (w5.alloc (.cells #[.slice (.some ⟨b1, o1, none⟩) t.ks.length ck] 22)) mb v (D ++ l.take j) L' ∧ hs.length = L'.length ∧ ∀ j (hj : j < L'.length) (hj' : j < hs.length), Kz h W (.some ⟨(hs[j]).1, (hs[j]).2.1, none⟩) L'[j]) := ⟨bj.below ((Below.refl _ _).alloc (Nat.le_refl _) _), hhl, hinc5⟩
                have HOW : Hid ((w5.alloc (.cells #[.slice (.some ⟨b1, o1, none⟩) t.ks.length ck] 22)).ownsRow (W.heap.size + 1) 22 1 v L'.length (lcs L' hs)) := hown
                rw [hw3] at hlk hup5
                rw [hw3] at p0 p1
                clear hbi3 hq3 hbx3 hup bj hq5 hw4 hoth5 hsz5 hw3 hp hpq hqm hinc5 hhl hrow5
                go_wp2_with (at_builtin; refine wpList_append_own _ rfl (.tmp 47) (.tmp 50) 96 rfl (W.heap.size + 1) 22 i0 (.slice none 0 0) 1 24 Tryz.underlying96 hii hz0 hz1 hz2 rfl (by decide) _ _ _ rfl hown ⟨w5.heap.size, 0, none⟩ 1 1 [.slice (.some ⟨b1, o1, none⟩) t.ks.length ck] rfl rfl (cell_one_at w5 _ _) (one_slice _ _ _) (by unfold maxLen; omega) (by omega) hbase ?_; intro v7 w7 hown7 hg7 _)
                have HZ : Hid (BZ h W w7 mb v7 (D ++ l.take (j + 1)) (L' ++ [t.ks])) := by
                  show BZ _ _ _ _ _ _ _
                  rw [HTK.out]
                  exact HBJ.out.1.grow hk0 HKD.out HBJ.out.2.1 HBJ.out.2.2 HOW.out hg7 hown7
                clear hown7 hg7 HBJ HOW
                go_wp2
                go_roundw
                case rel => first | exact ⟨j + 1, _, _, by omega, by go_num, rfl, HZ.out⟩ | ((repeat apply Exists.intro); exact ⟨⟨j + 1, _, _, by omega, by go_num, rfl, HZ.out⟩, rfl⟩)
                case measure => simp [intOf]; omega
        · obtain rfl : j = l.length := by omega
          have HZ : Hid (BZ h W wr mb v (L.take (k + 1)).flatten L') := by
            show BZ _ _ _ _ _ _ _
            rw [← HFD.out]
            exact hbi
          clear hbi
          go_wp2
          go_roundw
          case rel => first | exact ⟨k + 1, L', _, by omega, by go_num, rfl, HZ.out⟩ | ((repeat apply Exists.intro); exact ⟨⟨k + 1, L', _, by omega, by go_num, rfl, HZ.out⟩, rfl⟩)
          case measure => simp [intOf]; omega
    · obtain rfl : k = L.length := by omega
      rw [List.take_length] at hbi
      have HZ : Hid (BeT h L W (.returned (.tuple #[v, .bool true])) wr) := ⟨hbi.lo, .inr ⟨v, L', rfl, hbi.lv, hbi.sub, hbi.ne⟩⟩
      clear hbi
      go_wp2
      go_ret2
      exact HZ.out
end Go.Proofs.YtohkocknpmnakaaGreatDoor
/-
  printable and Print end, of every element, where the model may draw.
-/
namespace Go.Proofs.YtohkocknpmnakaaGreatDoor
open Go.RowKit

structure PT (L : List (List Nod)) (hh : Nat) (v : Value) (W w : World) : Prop where
  lv : Lz hh w v L
  ne : ∀ l ∈ L, l ≠ []
  sl : SL L ≤ 1000000000
  lo : Below W.heap.size W w
theorem PT.height {L : List (List Nod)} {hh : Nat} {v : Value} {W w : World} (p : PT L hh v W w) (hL : L ≠ []) : ∃ h', hh = h' + 1 := by
  cases hh with
  | succ h' => exact ⟨h', rfl⟩
  | zero =>
    obtain ⟨a, c, -, h1 | ⟨g, off, -, -, h2⟩⟩ := p.lv
    · exact absurd h1 hL
    · obtain ⟨b, o, cj, -, k2⟩ := h2 0 (List.length_pos_iff.2 hL)
      exact absurd (show L[0]'(List.length_pos_iff.2 hL) = [] from k2) (p.ne _ (List.getElem_mem _))
theorem PT.next {L : List (List Nod)} {h' : Nat} {v : Value} {W w : World} (p : PT L (h' + 1) v W w) {e : Ending} {w' : World} (h : BeT h' L w e w') :
    Below W.heap.size W w' ∧ (e = .returned (.tuple #[.slice none 0 0, .bool false]) ∨ ∃ v' L', e = .returned (.tuple #[v', .bool true]) ∧ PT L' h' v' W w') := by
  obtain ⟨hb, h | ⟨v', L', rfl, h1, h4, h5⟩⟩ := h
  · exact ⟨p.lo.trans (hb.mono p.lo.size), .inl h⟩
  · exact ⟨p.lo.trans (hb.mono p.lo.size), .inr ⟨v', L', rfl, h1, h5, Nat.le_trans (Nat.le_trans (SL_sub h4) (SL_kids L)) p.sl, p.lo.trans (hb.mono p.lo.size)⟩⟩

set_option maxRecDepth 20000 in
set_option maxHeartbeats 3200000 in
theorem printable_tot (h : Nat) (t : Nod) (a : Option Addr) (c : Nat) (w : World) (hi : Kz h w a t.ks) (hlen : (elL [] t).length ≤ 1000000000) :
    Calls Tryz.prog 34 #[ndV t a c] w fun e w' => (∃ b, e = .returned (.bool b)) ∧ Below w.heap.size w w' := by
  unfold ndV
  obtain ⟨wa, hwa⟩ : ∃ wa, wa = ((w.alloc (.cells #[.string ⟨t.nm.toArray⟩, .string ⟨t.tx.toArray⟩, .slice a t.ks.length c] 24)).alloc (.cells #[.string ⟨t.nm.toArray⟩, .string ⟨t.tx.toArray⟩, .slice a t.ks.length c] 24)).alloc (.cells #[.slice (some ⟨w.heap.size + 1, 0, none⟩) 1 1] 22) := ⟨_, rfl⟩
  have e1 : (w.alloc (.cells #[.string ⟨t.nm.toArray⟩, .string ⟨t.tx.toArray⟩, .slice a t.ks.length c] 24)).heap.size = w.heap.size + 1 := by show (w.heap.push _).size = _; simp
  have e2 : ((w.alloc (.cells #[.string ⟨t.nm.toArray⟩, .string ⟨t.tx.toArray⟩, .slice a t.ks.length c] 24)).alloc (.cells #[.string ⟨t.nm.toArray⟩, .string ⟨t.tx.toArray⟩, .slice a t.ks.length c] 24)).heap.size = w.heap.size + 1 + 1 := by show ((w.heap.push _).push _).size = _; simp
  have HA : Hid (PT [[t]] (h + 1) (.slice (some ⟨w.heap.size + 1 + 1, 0, none⟩) 1 1) w wa) := by
    have hg : wa.heap[w.heap.size + 1 + 1]? = some (.cells #[.slice (some ⟨w.heap.size + 1, 0, none⟩) 1 1] 22 (0, 0)) := by
      rw [hwa]
      have := heap_alloc_new ((w.alloc (.cells #[.string ⟨t.nm.toArray⟩, .string ⟨t.tx.toArray⟩, .slice a t.ks.length c] 24)).alloc (.cells #[.string ⟨t.nm.toArray⟩, .string ⟨t.tx.toArray⟩, .slice a t.ks.length c] 24)) (.cells #[.slice (some ⟨w.heap.size + 1, 0, none⟩) 1 1] 22)
      rw [e2] at this
      exact this
    have hbx : Bx wa (w.heap.size + 1) t.nm t.tx (.slice a t.ks.length c) := by
      rw [hwa]
      have := heap_alloc_new (w.alloc (.cells #[.string ⟨t.nm.toArray⟩, .string ⟨t.tx.toArray⟩, .slice a t.ks.length c] 24)) (.cells #[.string ⟨t.nm.toArray⟩, .string ⟨t.tx.toArray⟩, .slice a t.ks.length c] 24)
      rw [e1] at this
      exact keep_blk this ((Md.refl (fun _ => False) _).alloc _) (fun h => h)
    have hlo : Below w.heap.size w wa := by
      rw [hwa]
      exact (((Below.refl _ _).alloc (Nat.le_refl _) _).alloc (by rw [e1]; omega) _).alloc (by rw [e2]; omega) _
    refine ⟨⟨_, _, rfl, .inr ⟨w.heap.size + 1 + 1, 0, rfl, blk_lt hg, fun j hj => ?_⟩⟩, by simp, ?_, hlo⟩
    · obtain rfl : j = 0 := by simpa using hj
      refine ⟨w.heap.size + 1, 0, 1, cell_blk hg 0, .inr ⟨w.heap.size + 1, 0, rfl, ⟨⟨_, _, _, hbx⟩, frozen_blk hbx 0⟩, blk_lt hbx, fun j hj => ?_⟩⟩
      obtain rfl : j = 0 := by simpa using hj
      exact ⟨a, c, by simpa using cell_blk hbx 0, by simpa using cell_blk hbx 1, by simpa using cell_blk hbx 2, Kz.below hlo hi⟩
    · rw [SL_cons, els_cons, els_nil, List.append_nil]
      simpa [SL] using hlen
  have KB := (show Hid (∀ (h' : Nat) (v : Value) (L : List (List Nod)) (W : World), Lz (h' + 1) W v L → (∀ l ∈ L, l ≠ []) → SL L ≤ 1000000000 → Calls Tryz.prog 67 #[v] W (BeT h' L W)) from fun h' v L W => below_tot h' v L W)
  clear hi hlen e1 e2
  go_enter Tryz.func34, Tryz.ntmps34
  go_wp2
  rw [← hwa]
  clear hwa
  go_loopw [3, 4, 5] (fun u o i wx => (o = .bool true ∧ ∃ (d hh : Nat) (L : List (List Nod)) (v : Value), d ≤ 16 ∧ i = .int .i64 ((d : Int) + 1) ∧ v = u ∧ PT L hh v w wx) ∨ (o = .bool false ∧ Below w.heap.size w wx ∧ ∃ d : Nat, d ≤ 17 ∧ i = .int .i64 ((d : Int) + 1))) (fun _ _ i _ => 18 - (intOf i).toNat)
  case atStart => exact .inl ⟨rfl, 0, _, _, _, by omega, rfl, rfl, HA.out⟩
  case round =>
    rcases hrel with ⟨rfl, d, hh, L, v, hd, rfl, rfl, hpl⟩ | ⟨rfl, hlo, d, hd, rfl⟩
    · by_cases hL : L = []
      · have HZ : Hid (Below w.heap.size w wr) := hpl.lo
        obtain ⟨a1, c1, rfl, -⟩ := hpl.lv
        subst hL
        clear hpl HA
        go_wp2
        go_ret
        exact ⟨⟨_, rfl⟩, HZ.out⟩
      · obtain ⟨h', rfl⟩ := hpl.height hL
        have hpos := List.length_pos_iff.2 hL
        have hll : L.length ≤ 1000000000 := Nat.le_trans (SL_len hpl.ne) hpl.sl
        have HPL : Hid (PT L (h' + 1) v w wr) := hpl
        have KBL := KB.out h' v L wr hpl.lv hpl.ne hpl.sl
        obtain ⟨a1, c1, rfl, -⟩ := hpl.lv
        have hpI : (0 : Int) < (L.length : Int) := by omega
        by_cases h16 : d = 16
        · have HZ : Hid (Below w.heap.size w wr) := hpl.lo
          subst h16
          clear hpl HPL KBL HA
          go_wp2
          go_ret
          exact ⟨⟨_, rfl⟩, HZ.out⟩
        · have hd16 : d < 16 := by omega
          clear hpl HA
          go_wp2_with fail
          refine KBL.mono ?_
          rintro e w1 hbe
          rcases HPL.out.next hbe with ⟨hlo1, rfl | ⟨v', L', rfl, hpl1⟩⟩
          · have HZ : Hid (Below w.heap.size w w1) := hlo1
            clear hlo1 hbe KBL HPL
            go_wp2
            go_roundw
            case rel => exact .inr ⟨rfl, HZ.out, d + 1, by omega, by go_num⟩
            case measure => simp [intOf]; omega
          · have HZ : Hid (PT L' h' v' w w1) := hpl1
            clear hlo1 hpl1 hbe KBL HPL
            go_wp2
            go_roundw
            case rel => exact .inl ⟨rfl, d + 1, h', L', v', by omega, by go_num, rfl, HZ.out⟩
            case measure => simp [intOf]; omega
    · have HZ : Hid (Below w.heap.size w wr) := hlo
      clear hlo
      go_wp2
      go_ret
      exact ⟨⟨_, rfl⟩, HZ.out⟩

set_option maxRecDepth 20000 in
set_option maxHeartbeats 3200000 in
theorem print_tot (h : Nat) (s : Bool) (t : Nod) (a : Option Addr) (c : Nat) (w : World) (hi : Kz h w a t.ks) (hlen : (docL s t).length ≤ 1000000000) :
    Calls Tryz.prog 15 #[ndV t a c, .bool s] w fun e w' => (∃ (x : ByteArray) (y : Int), e = .returned (.tuple #[.string x, .int .i64 y])) ∧ Below w.heap.size w w' := by
  have hd : (headL ++ elL (attL s) t).length ≤ 1000000000 := hlen
  have hel : (elL (attL s) t).length ≤ 1000000000 := by
    rw [List.length_append] at hd
    omega
  have KP := (show Hid (∀ W, Below w.heap.size w W → Calls Tryz.prog 34 #[ndV t a c] W fun e w' => (∃ b, e = .returned (.bool b)) ∧ Below W.heap.size W w') from fun W hb => printable_tot h t a c W (Kz.below hb hi) (Nat.le_trans (el_att s t) hel))
  have KE := (show Hid (∀ B W, w.heap.size ≤ B → Below w.heap.size w W → Lib.IsBuilderF 66 5 B B (Lib.byteCells ([] ++ headL)) W → B < W.heap.size → Calls Tryz.prog 36 #[.pointer (some ⟨B, 0, none⟩), ndV t a c, .string ⟨(attL s).toArray⟩] W (PeR t (attL s) ([] ++ headL) B W)) from fun B W hB hb hu hlt => by
    refine peq_all h t a c (attL s) ([] ++ headL) B W hu hlt ?_ hd
    have h3 := Kd.keep (w' := W) hb.size (fun b hg _ => hb.block b hg) hi.kd
    exact h3.mono (fun b hg _ => by omega))
  have HDL : Hid ([] ++ headL ++ elL (attL s) t = docL s t) := rfl
  have HL : Hid (([] ++ headL : List UInt8) = (⟨#[60, 63, 120, 109, 108, 32, 118, 101, 114, 115, 105, 111, 110, 61, 34, 49, 46, 48, 34, 32, 101, 110, 99, 111, 100, 105, 110, 103, 61, 34, 85, 84, 70, 45, 56, 34, 63, 62, 10]⟩ : ByteArray).data.toList) := rfl
  unfold ndV at KP KE ⊢
  obtain ⟨w0, hw0⟩ : ∃ w0, w0 = w.alloc (.cells #[.string ⟨t.nm.toArray⟩, .string ⟨t.tx.toArray⟩, .slice a t.ks.length c] 24) := ⟨_, rfl⟩
  have H0 : Hid (Bx w0 w.heap.size t.nm t.tx (.slice a t.ks.length c) ∧ Below w.heap.size w w0) := by
    rw [hw0]
    exact ⟨heap_alloc_new w _, (Below.refl _ _).alloc (Nat.le_refl _) _⟩
  clear hi hlen hd hel
  unfold PeR at KE
  generalize docL s t = DL at *
  generalize ([] ++ headL : List UInt8) = HD at *
  rw [HDL.out] at KE
  go_enter Tryz.func15, Tryz.ntmps15
  go_wp2_with fail
  rw [← hw0]
  clear hw0
  refine (KP.out _ H0.out.2).mono ?_
  rintro e w1 ⟨⟨OK, rfl⟩, hb1⟩
  have H1 : Hid (Bx w1 w.heap.size t.nm t.tx (.slice a t.ks.length c) ∧ Below w.heap.size w w1) := ⟨H0.out.1.keep (Md.ofBelow (F := fun _ => False) hb1) (fun h => h), H0.out.2.trans (hb1.mono H0.out.2.size)⟩
  clear hb1 H0 KP
  cases OK with
  | false =>
    go_wp2
    go_ret2
    exact ⟨⟨_, _, rfl⟩, H1.out.2⟩
  | true =>
    have hib := isB_new w1
    have hw2 : Below w1.heap.size w1 (w1.alloc (.cells #[.pointer none, .slice none 0 0] 66)) := (Below.refl _ _).alloc (Nat.le_refl _) _
    have hsz2 : (w1.alloc (.cells #[.pointer none, .slice none 0 0] 66)).heap.size = w1.heap.size + 1 := by show (w1.heap.push _).size = _; simp
    obtain ⟨w2, e2⟩ : ∃ w2, w2 = w1.alloc (.cells #[.pointer none, .slice none 0 0] 66) := ⟨_, rfl⟩
    rw [← e2] at hib hw2 hsz2
    have H2 : Hid (Bx w2 w.heap.size t.nm t.tx (.slice a t.ks.length c) ∧ Below w.heap.size w w2 ∧ w2.heap.size = w1.heap.size + 1) := ⟨H1.out.1.keep (Md.ofBelow (F := fun _ => False) hw2) (fun h => h), H1.out.2.trans (hw2.mono H1.out.2.size), hsz2⟩
    have K3 : Calls Tryz.prog 35 #[.pointer (some ⟨w1.heap.size, 0, none⟩), .string ⟨#[60, 63, 120, 109, 108, 32, 118, 101, 114, 115, 105, 111, 110, 61, 34, 49, 46, 48, 34, 32, 101, 110, 99, 111, 100, 105, 110, 103, 61, 34, 85, 84, 70, 45, 56, 34, 63, 62, 10]⟩] w2 fun e w' => (∃ z, e = .returned (.tuple #[z, .nilIface])) ∧ Lib.IsBuilderF 66 5 w1.heap.size w1.heap.size (Lib.byteCells HD) w' ∧ Below w1.heap.size w2 w' ∧ Lib.OthersKept 5 (some w1.heap.size) w2 w' := by
      refine (ws_any w1.heap.size w2 [] ⟨#[60, 63, 120, 109, 108, 32, 118, 101, 114, 115, 105, 111, 110, 61, 34, 49, 46, 48, 34, 32, 101, 110, 99, 111, 100, 105, 110, 103, 61, 34, 85, 84, 70, 45, 56, 34, 63, 62, 10]⟩ hib (by decide) (by omega)).mono ?_
      rintro e w' ⟨rfl, h1, h2, h3⟩
      rw [List.nil_append, ← HL.out] at h1
      exact ⟨⟨_, rfl⟩, h1, h2, h3⟩
    clear hib hw2 hsz2
    have hlt : w.heap.size < w1.heap.size := blk_lt H1.out.1
    obtain ⟨AT, hAT⟩ : ∃ AT : ByteArray, AT = ⟨(attL s).toArray⟩ := ⟨_, rfl⟩
    rw [← hAT] at KE
    have HAT : Hid ((s = true → AT = ⟨#[32, 120, 109, 108, 110, 115, 61, 34, 104, 116, 116, 112, 58, 47, 47, 115, 51, 46, 97, 109, 97, 122, 111, 110, 97, 119, 115, 46, 99, 111, 109, 47, 100, 111, 99, 47, 50, 48, 48, 54, 45, 48, 51, 45, 48, 49, 47, 34]⟩) ∧ (s = false → AT = ⟨#[]⟩)) := by
      rw [hAT]
      exact ⟨fun h => by rw [h]; rfl, fun h => by rw [h]; rfl⟩
    clear hAT
    cases s
    all_goals
      first
        | rw [HAT.out.2 rfl] at KE
        | rw [HAT.out.1 rfl] at KE
      clear HAT
      go_wp2_with fail
      rw [← e2]
      clear e2
      with_reducible refine K3.mono ?_
      rintro e w3 ⟨⟨z3, rfl⟩, hi3, hb3, ho3⟩
      have bx3 : Bx w3 w.heap.size t.nm t.tx (.slice a t.ks.length c) := ho3 _ _ H2.out.1 (by simp; omega) (by intro c fz e; injection e with _ e _; cases e)
      obtain ⟨⟨c0, c1, c2⟩, -⟩ := Bx.cells bx3
      have h3 := H2.out.2.1.trans (hb3.mono H1.out.2.size)
      have hz3 : w1.heap.size < w3.heap.size := by have := H2.out.2.2; have := hb3.size; omega
      have K4 := KE.out w1.heap.size w3 H1.out.2.size h3 hi3 hz3
      have H3 : Hid (Below w.heap.size w w3 ∧ w1.heap.size ≤ w3.heap.size) := ⟨h3, by omega⟩
      clear bx3 hi3 hb3 ho3 K3 h3 hz3
      obtain ⟨FL, hFL⟩ : ∃ FL, FL = decide (DL.length ≤ 65536) := ⟨_, rfl⟩
      rw [← hFL] at K4
      go_wp2_with fail
      refine K4.mono ?_
      rintro e w4 ⟨bl', rfl, hi4, hb4, -, hbl⟩
      have H4 : Hid (Below w.heap.size w w4) := H3.out.1.trans (hb4.mono H1.out.2.size)
      have hsz4 := hb4.size
      clear hb4 K4 c0 c1 c2
      cases FL with
      | false =>
        clear hFL hbl hi4
        go_wp2
        go_ret2
        exact ⟨⟨_, _, rfl⟩, H4.out⟩
      | true =>
        have hyes : DL.length ≤ 65536 := of_decide_eq_true hFL.symm
        have hb' := hbl hyes
        subst hb'
        have K5 := Builder_String_any_f w1.heap.size w1.heap.size bl' w4 hi4 (Nat.le_trans H3.out.2 hsz4)
        clear hyes hFL hbl hi4
        go_wp2_with fail
        refine K5.mono ?_
        rintro e w5 ⟨rfl, -, hb5⟩
        have H5 : Hid (Below w.heap.size w w5) := H4.out.trans (hb5.mono H1.out.2.size)
        clear hb5 K5
        go_wp2
        go_ret2
        exact ⟨⟨_, _, rfl⟩, H5.out⟩
end Go.Proofs.YtohkocknpmnakaaGreatDoor
/-
  An element that came in, told by a tree.
-/
namespace Go.Proofs.YtohkocknpmnakaaGreatDoor
open Go.ChangeShapes Go.WideShapes Go.ChangeAt Go.RowKit

instance nodInhabited : Inhabited Nod := ⟨.nd [] [] []⟩
theorem cells9n : Tryz.prog.cellsOf 9 = 1 := by kernel_rfl
theorem cells22n : Tryz.prog.cellsOf 22 = 1 := by kernel_rfl
theorem cells24n : Tryz.prog.cellsOf 24 = 3 := by kernel_rfl
theorem bulk_mem {H : Type} {x : DataW H} {l : List (DataW H)} (h : x ∈ l) : Rows.uptoBulk x ≤ Rows.uptoBulkAll l := by
  induction l with
  | nil => cases h
  | cons a r ih =>
    simp only [Rows.uptoBulkAll]
    rcases List.mem_cons.1 h with rfl | h
    · omega
    · have := ih h
      omega
theorem bulk_els {H : Type} (T : Nat → Nod) (D : Nat → DataW H) : ∀ l : List Nat, (∀ i ∈ l, (elL [] (T i)).length ≤ 6 * Rows.uptoBulk (D i)) → (elsL (l.map T)).length ≤ 6 * Rows.uptoBulkAll (l.map D)
  | [], _ => by simp [els_nil]
  | i :: l, h => by
    have ih := bulk_els T D l (fun j hj => h j (by simp [hj]))
    have h0 := h i (by simp)
    simp only [List.map_cons, els_cons, List.length_append, Rows.uptoBulkAll]
    omega
theorem list3 {α : Type} {xs : List α} (h : xs.length = 3) : ∃ x0 x1 x2, xs = [x0, x1, x2] := by
  match xs, h with
  | [x0, x1, x2], _ => exact ⟨x0, x1, x2, rfl⟩
theorem prm_of {W : World} {b off : Nat} {v : Value} (h : W.cell? ⟨b, off, none⟩ = some v) (hf : W.frozen? ⟨b, off, none⟩ = false) : Prm W ⟨b, off, none⟩ := by
  refine ⟨?_, hf⟩
  unfold World.cell? at h
  split at h
  · next c t fz he => exact ⟨c, t, fz, he⟩
  · cases h

theorem open_node {H : Type} {enc : TypeId × Value → H} {W : World} : ∀ (N fuel : Nat) (cs : List Value) (d : DataW H) (p : List MemPlace), DataW.trod enc Tryz.prog W 0 (fun _ => true) true fuel 24 cs = some (d, p) → Rows.uptoBulk d ≤ N → W.noneFrozen p →
    ∃ (t : Nod) (a : Option Addr) (c : Nat), cs = [.string ⟨t.nm.toArray⟩, .string ⟨t.tx.toArray⟩, .slice a t.ks.length c] ∧ Kz N W a t.ks ∧ (elL [] t).length ≤ 6 * Rows.uptoBulk d
  | 0, fuel, cs, d, p, hf, hb, _ => by
    obtain ⟨xs, k, _, hx, _⟩ := DataW.trod_struct Tryz.underlying24 hf
    have hd : d = .agg (xs.map (·.1)) := (Prod.mk.inj hx).1
    rw [hd] at hb
    simp only [Rows.uptoBulk] at hb
    omega
  | N + 1, fuel, cs, d, p, hf, hb, hfz => by
    obtain ⟨xs, k, _, hx, hcl, hxl, hg⟩ := DataW.trod_struct Tryz.underlying24 hf
    obtain ⟨x0, x1, x2, rfl⟩ := list3 (show xs.length = 3 from hxl)
    obtain ⟨c0, c1, c2, rfl⟩ := list3 (hcl.trans cells24n)
    have hd : d = .agg [x0.1, x1.1, x2.1] := (Prod.mk.inj hx).1
    have hp : p = x0.2 ++ (x1.2 ++ (x2.2 ++ [])) := (Prod.mk.inj hx).2
    have f0 : DataW.trod enc Tryz.prog W 0 (fun _ => true) true k 9 [c0] = some x0 := by
      have u : DataW.trod enc Tryz.prog W 0 (fun _ => true) true k 9 (([c0, c1, c2].drop 0).take (Tryz.prog.cellsOf 9)) = [x0, x1, x2][0]? := hg 0 _ rfl
      rw [cells9n] at u
      exact u
    have f1 : DataW.trod enc Tryz.prog W 0 (fun _ => true) true k 9 [c1] = some x1 := by
      have u : DataW.trod enc Tryz.prog W 0 (fun _ => true) true k 9 (([c0, c1, c2].drop 1).take (Tryz.prog.cellsOf 9)) = [x0, x1, x2][1]? := hg 1 _ rfl
      rw [cells9n] at u
      exact u
    have f2 : DataW.trod enc Tryz.prog W 0 (fun _ => true) true k 22 [c2] = some x2 := by
      have u : DataW.trod enc Tryz.prog W 0 (fun _ => true) true k 22 (([c0, c1, c2].drop 2).take (Tryz.prog.cellsOf 22)) = [x0, x1, x2][2]? := hg 2 _ rfl
      rw [cells22n] at u
      exact u
    obtain ⟨s0, r0, q0, -⟩ := DataW.trod_string Tryz.underlying9 f0
    obtain ⟨s1, r1, q1, -⟩ := DataW.trod_string Tryz.underlying9 f1
    simp only [List.cons.injEq, and_true] at r0 r1
    subst r0 r1
    have e0 : x0.1 = .lit (.string s0.data.toList) := by rw [q0]
    have e1 : x1.1 = .lit (.string s1.data.toList) := by rw [q1]
    have es0 : (⟨s0.data.toList.toArray⟩ : ByteArray) = s0 := by cases s0; simp
    have es1 : (⟨s1.data.toList.toArray⟩ : ByteArray) = s1 := by cases s1; simp
    have hbd : Rows.uptoBulk d = s0.data.toList.length + 1 + (s1.data.toList.length + 1 + (Rows.uptoBulk x2.1 + 0)) + 1 := by
      rw [hd, e0, e1]
      rfl
    have hesc := escX_len s1.data.toList
    rcases Go.Deep.open_slice Tryz.underlying22 f2 with ⟨hcs, -⟩ | ⟨a, len, cap, m, n, D, Pl, hcs, -, hl, hm, hmm, hx2, hrow⟩
    · simp only [List.cons.injEq, and_true] at hcs
      subst hcs
      refine ⟨.nd s0.data.toList s1.data.toList [], none, 0, ?_, .inl rfl, ?_⟩
      · simp only [Nod.nm, Nod.tx, Nod.ks, es0, es1, List.length_nil]
      · rw [elL_eq]
        simp only [Nod.nm, Nod.tx, Nod.ks, els_nil, List.length_append, List.flatten_cons, List.flatten_nil, List.length_cons, List.length_nil]
        omega
    · simp only [List.cons.injEq, and_true] at hcs
      subst hcs
      have hm' : m = cap := by simpa using hmm
      have h21 : x2.1 = .slice ((List.range len).map D) ((List.range (m - len)).map fun j => D (len + j)) := by rw [hx2]
      have h22 : x2.2 = MemPlace.row a (m * Tryz.prog.cellsOf 24) ++ (List.range m).flatMap Pl := by rw [hx2]
      have hb2 : Rows.uptoBulk x2.1 = Rows.uptoBulkAll ((List.range len).map D) + Rows.uptoBulkAll ((List.range (m - len)).map fun j => D (len + j)) + 1 := by
        rw [h21]
        rfl
      rw [cells24n] at hrow h22
      have hfz2 : ∀ b off, MemPlace.cell b off ∈ x2.2 → W.frozen? ⟨b, off, none⟩ = false := fun b off h => hfz b off (by rw [hp]; simp [h])
      by_cases h0 : len = 0
      · subst h0
        refine ⟨.nd s0.data.toList s1.data.toList [], some a, cap, ?_, .inl rfl, ?_⟩
        · simp only [Nod.nm, Nod.tx, Nod.ks, es0, es1, List.length_nil]
        · rw [elL_eq]
          simp only [Nod.nm, Nod.tx, Nod.ks, els_nil, List.length_append, List.flatten_cons, List.flatten_nil, List.length_cons, List.length_nil]
          omega
      · obtain ⟨b, off, spot⟩ := a
        have hspot : spot = none := by
          obtain ⟨cs', g1, g2⟩ := hrow 0 (by omega)
          obtain ⟨-, hlen, hcell⟩ := World.cells?_some g1
          have u0 := hcell 0 (by omega)
          obtain ⟨z0, z1, z2, rfl⟩ := list3 hlen
          have u1 : W.cell? ⟨b, off, spot⟩ = some z0 := by simpa [Addr.add] using u0
          exact World.cell?_spot u1
        subst hspot
        obtain ⟨F, hF⟩ := Go.Deep.choose_lt (α := Nod) (p := fun i t => ∃ (a' : Option Addr) (c' : Nat), W.cell? ⟨b, off + i * 3, none⟩ = some (.string ⟨t.nm.toArray⟩) ∧ W.cell? ⟨b, off + i * 3 + 1, none⟩ = some (.string ⟨t.tx.toArray⟩) ∧ W.cell? ⟨b, off + i * 3 + 2, none⟩ = some (.slice a' t.ks.length c') ∧ Kz N W a' t.ks ∧ (elL [] t).length ≤ 6 * Rows.uptoBulk (D i)) (n := len) (fun i hi => by
          obtain ⟨cs', g1, g2⟩ := hrow i (by omega)
          rw [Addr.add_lit] at g1
          obtain ⟨-, hlen, hcell⟩ := World.cells?_some g1
          have hmem : D i ∈ (List.range len).map D := List.mem_map.2 ⟨i, List.mem_range.2 hi, rfl⟩
          have hbi := bulk_mem hmem
          obtain ⟨t, a', c', k1, k2, k3⟩ := open_node N n cs' (D i) (Pl i) g2 (by omega) (fun b off h => hfz2 b off (by
            rw [h22]
            exact List.mem_append.2 (.inr (List.mem_flatMap.2 ⟨i, List.mem_range.2 (by omega), h⟩))))
          subst k1
          have u0 := hcell 0 (by omega)
          have u1 := hcell 1 (by omega)
          have u2 := hcell 2 (by omega)
          rw [Addr.add_lit] at u0 u1 u2
          exact ⟨t, a', c', u0, u1, u2, k2, k3⟩)
        refine ⟨.nd s0.data.toList s1.data.toList ((List.range len).map F), some ⟨b, off, none⟩, cap, ?_, ?_, ?_⟩
        · simp only [Nod.nm, Nod.tx, Nod.ks, es0, es1, List.length_map, List.length_range]
        · show Kz (N + 1) W (some ⟨b, off, none⟩) ((List.range len).map F)
          obtain ⟨_, _, hc0, -⟩ := hF 0 (by omega)
          have hc0' : W.cell? ⟨b, off, none⟩ = some (.string ⟨(F 0).nm.toArray⟩) := by simpa using hc0
          have hfr : W.frozen? ⟨b, off, none⟩ = false := hfz2 b off (by
            rw [h22]
            refine List.mem_append.2 (.inl (List.mem_map.2 ⟨0, List.mem_range.2 (by omega), ?_⟩))
            rfl)
          refine .inr ⟨b, off, rfl, prm_of hc0' hfr, block_lt_of_cell hc0', fun j hj => ?_⟩
          have hj' : j < len := by simpa using hj
          obtain ⟨a', c', u0, u1, u2, u3, -⟩ := hF j hj'
          have e : ((List.range len).map F)[j] = F j := by simp
          rw [e]
          exact ⟨a', c', u0, u1, u2, u3⟩
        · have hbe := bulk_els F D (List.range len) (fun i hi => by
            obtain ⟨_, _, _, _, _, _, h⟩ := hF i (List.mem_range.1 hi)
            exact h)
          rw [elL_eq]
          simp only [Nod.nm, Nod.tx, Nod.ks, List.length_append, List.flatten_cons, List.flatten_nil, List.length_cons, List.length_nil]
          omega
end Go.Proofs.YtohkocknpmnakaaGreatDoor
/-
  What is read, and that its own row of elements is not frozen.
-/
namespace Go.Proofs.YtohkocknpmnakaaGreatDoor.T
open Go.RowKit

/-- Elements in memory whose first row is not frozen. -/
def Kt (G : Nat → Prop) (h : Nat) (w : World) (a : Option Addr) (ks : List Nod) : Prop := Kd G h w a ks ∧ (ks = [] ∨ ∃ b off, a = some ⟨b, off, none⟩ ∧ G b ∧ b < w.heap.size ∧ Cln w b)
theorem Kt.nil (G : Nat → Prop) (h : Nat) (w : World) (a : Option Addr) : Kt G h w a [] := ⟨Kd.nil _ _ _ _, .inl rfl⟩
theorem Kt.mono {G G' : Nat → Prop} {w : World} {h : Nat} {a : Option Addr} {ks : List Nod} (hk : Kt G h w a ks) (hG : ∀ b, G b → b < w.heap.size → G' b) : Kt G' h w a ks := by
  refine ⟨Kd.mono hG hk.1, ?_⟩
  rcases hk.2 with h0 | ⟨b, off, h1, h2, h3, h4⟩
  · exact .inl h0
  · exact .inr ⟨b, off, h1, hG b h2 h3, h3, h4⟩
theorem Kt.md {F G : Nat → Prop} {w w' : World} {h : Nat} {a : Option Addr} {ks : List Nod} (hk : Kt G h w a ks) (hm : Md F w w') (hF : ∀ b, b < w.heap.size → G b → ¬ F b) : Kt G h w' a ks := by
  refine ⟨hk.1.md hm hF, ?_⟩
  rcases hk.2 with h0 | ⟨b, off, h1, h2, h3, h4⟩
  · exact .inl h0
  · exact .inr ⟨b, off, h1, h2, Nat.lt_of_lt_of_le h3 hm.size, h4.keep (hm.block b h3 (hF b h3 h2))⟩
theorem _root_.Go.Proofs.YtohkocknpmnakaaGreatDoor.KR.kt {e : TypeId} {G : Nat → Prop} {h : Nat} {w : World} {base : Nat} {a : Option Addr} {n c : Nat} {ks : List Nod} (hk : KR e G h w base (.slice a n c) ks) (hG : ∀ b, base ≤ b → b < w.heap.size → (Value.slice a n c).ownBlock = some b → G b) : Kt G (h + 1) w a ks := by
  refine ⟨(hk.kd hG).2, ?_⟩
  obtain ⟨hs, hl, hown, hks⟩ := hk
  obtain ⟨hx, ⟨h1, h2⟩ | ⟨g, cap, cur, h1, h2, h3, h4⟩⟩ := hown
  · exact .inl (List.eq_nil_of_length_eq_zero h2)
  · simp only [Value.slice.injEq] at h1
    obtain ⟨rfl, rfl, rfl⟩ := h1
    exact .inr ⟨g, 0, rfl, hG g h2 (blk_lt h3) rfl, blk_lt h3, ⟨_, _, h3⟩⟩
/-- What an element's reading tells. -/
def ElR (k : Nat) (o : Option (Nod × List UInt8)) (W : World) (p : Nat) (e : Ending) (w' : World) : Prop :=
  (∃ t r a c, o = some (t, r) ∧ e = .returned (.tuple #[ndV t a c, .bool true]) ∧ Kt (fun b => W.heap.size ≤ b) k w' a t.ks ∧ Rd w' p r ∧ Md (fun b => b = p) W w') ∨
  (o = none ∧ e = .returned (.tuple #[ndZ, .bool false]) ∧ Md (fun b => b = p) W w')
/-- What is asked of the reading of elements. -/
def ElC (k : Nat) : Prop := ∀ (p : Nat) (l : List UInt8) (W : World), Rd W p l → Mx W → Er W → l.length ≤ 65536 → Calls Tryz.prog 29 #[.pointer (some ⟨p, 0, none⟩), .int .i64 ((17 - k : Nat) : Int)] W fun e w' => ElR k (elemF une k l) W p e w'
/-- What a content's reading tells. -/
def CoR (k : Nat) (o : Option (List UInt8 × List Nod × List UInt8)) (W : World) (p q : Nat) (n : List UInt8) (e : Ending) (w' : World) : Prop :=
  (∃ x ks r a c, o = some (x, ks, r) ∧ e = .returned (.bool true) ∧ Bx w' q n x (.slice a ks.length c) ∧ Kt (fun b => W.heap.size ≤ b) (k + 1) w' a ks ∧ Rd w' p r ∧ Md (fun b => b = p ∨ b = q) W w') ∨
  (o = none ∧ e = .returned (.bool false) ∧ Md (fun b => b = p ∨ b = q) W w')

set_option maxRecDepth 20000 in
set_option maxHeartbeats 3200000 in
theorem content_any (k : Nat) (hk : k ≤ 15) (HE : ElC k) (p q : Nat) (l n : List UInt8) (w : World) (h : Rd w p l) (hbx : Bx w q n [] (.slice none 0 0)) (hpq : p ≠ q) (hm : Mx w) (he : Er w) (hl : l.length ≤ 65536) :
    Calls Tryz.prog 58 #[.pointer (some ⟨p, 0, none⟩), .pointer (some ⟨q, 0, none⟩), .int .i64 ((16 - k : Nat) : Int)] w fun e w' => CoR k (contF une (elemF une k) l) w p q n e w' := by
  have hp0 := h.pos hm
  have hp3 := h.pos3 he
  obtain ⟨hq0, hq3⟩ := hbx.pos hm he
  have c0 := cell_blk h 0
  have f0 := frozen_blk h 0
  simp only [List.getElem?_toArray] at c0
  have HC := (show Hid (Calls Tryz.prog 54 #[.string ⟨l.toArray⟩, .string ⟨#[60]⟩] w fun e w' => e = .returned (.tuple #[.string ⟨(Lib.cut l [60]).1.toArray⟩, .string ⟨(Lib.cut l [60]).2.1.toArray⟩, .bool (Lib.cut l [60]).2.2]) ∧ ∃ n, w' = w.drewN n) from by
    obtain ⟨m, h0⟩ := hm
    exact strings_Cut ⟨l.toArray⟩ ⟨#[60]⟩ m w (by rw [mk_size]; omega) h0)
  rw [cut_one] at HC
  obtain ⟨O, hO⟩ : ∃ O, O = contF une (elemF une k) l := ⟨_, rfl⟩
  rw [← hO]
  have hule := upto_le 60 l
  have H0 : Hid (Rd w p l ∧ Bx w q n [] (.slice none 0 0) ∧ Mx w ∧ Er w) := ⟨h, hbx, hm, he⟩
  unfold contF at hO
  by_cases hn : (upto 60 l).length = l.length
  · rw [if_pos hn] at hO HC
    have HO : Hid (O = none) := hO
    clear hO hn h hbx hm he HE
    go_enter Tryz.func58, Tryz.ntmps58
    go_wp2_with fail
    refine wp_scope_ahead 0 rfl ?_
    go_wp2_with fail
    refine HC.out.mono ?_
    rintro e w1 ⟨rfl, m, rfl⟩
    go_wp2_with fail
    go_step3
    refine ⟨rfl, ?_⟩
    go_wp2
    rw [Exit.noGoto_ret]
    go_wp2
    go_ret
    exact .inr ⟨HO.out, rfl, Md.ofBelow (below_drewN (Below.refl _ _) _)⟩
  · rw [if_neg hn] at hO HC
    have HP := (show Hid (∀ (x : List UInt8) (z : ByteArray) W, Calls Tryz.prog 87 #[.string ⟨x.toArray⟩, .string z] W fun e w' => e = .returned (.bool (Lib.hasPrefix x z.data.toList)) ∧ W = w') from fun x z W => (strings_HasPrefix ⟨x.toArray⟩ z W).mono (fun _ _ h => ⟨h.1, h.2.symm⟩))
    by_cases hs : Lib.hasPrefix (l.drop ((upto 60 l).length + 1)) [47] = true
    · rw [if_pos hs] at hO
      have HP1 := HP.out (l.drop ((upto 60 l).length + 1)) ⟨#[47]⟩
      rw [show Lib.hasPrefix (l.drop ((upto 60 l).length + 1)) (ByteArray.data ⟨#[47]⟩).toList = true from hs] at HP1
      have HU := (show Hid (∀ W, Mx W → Er W → Calls Tryz.prog 20 #[.string ⟨(upto 60 l).toArray⟩] W fun e w' => UsR (une (upto 60 l)) e ∧ Below W.heap.size W w') from fun W h1 h2 => unescape_any _ W (by omega) h1 h2)
      have hx1 : (⟨l.toArray⟩ : ByteArray).extract (upto 60 l).length l.length = ⟨(l.drop (upto 60 l).length).toArray⟩ := by
        rw [mk_ext, List.take_length]
      have HO : Hid (O = (une (upto 60 l)).map fun x => (x, [], l.drop (upto 60 l).length)) := hO
      clear hO hn hs h hbx hm he HE HP
      have hui : ((upto 60 l).length : Int) ≤ (l.length : Int) := by omega
      go_enter Tryz.func58, Tryz.ntmps58
      go_wp2_with fail
      refine wp_scope_ahead 0 rfl ?_
      go_wp2_with fail
      refine HC.out.mono ?_
      rintro e w1 ⟨rfl, m, rfl⟩
      have hb1 : Below w.heap.size w (w.drewN m) := below_drewN (Below.refl _ _) _
      generalize w.drewN m = w1 at *
      have r1 := H0.out.1.keep (Md.ofBelow (F := fun _ => False) hb1) (fun h => h)
      have c1 := cell_blk r1 0
      have f1 := frozen_blk r1 0
      simp only [List.getElem?_toArray] at c1
      have H1 : Hid (Rd w1 p l ∧ Bx w1 q n [] (.slice none 0 0) ∧ Mx w1 ∧ Er w1 ∧ Md (fun b => b = p ∨ b = q) w w1) := ⟨r1, H0.out.2.1.keep (Md.ofBelow (F := fun _ => False) hb1) (fun h => h), H0.out.2.2.1.md (Md.ofBelow (F := fun _ => False) hb1) (fun h => h), H0.out.2.2.2.md (Md.ofBelow (F := fun _ => False) hb1) (fun h => h), Md.ofBelow hb1⟩
      clear r1 hb1 c0 f0
      go_wp2_with (go_at_call 87; refine (HP1 _).mono ?_; rintro e w' ⟨rfl, rfl⟩)
      have H2 : Hid (∀ W2, W2 = w1.setCell ⟨p, 0, none⟩ (Value.string ⟨(l.drop (upto 60 l).length).toArray⟩) → Rd W2 p (l.drop (upto 60 l).length) ∧ Bx W2 q n [] (.slice none 0 0) ∧ Mx W2 ∧ Er W2 ∧ Md (fun b => b = p ∨ b = q) w W2) := by
        rintro W2 rfl
        have mm : Md (fun b => b = p) w1 (w1.setCell ⟨p, 0, none⟩ (Value.string ⟨(l.drop (upto 60 l).length).toArray⟩)) := (Md.refl (fun b => b = p) w1).set (.inl rfl) 0 _
        exact ⟨(set_blk H1.out.1 0 _).trans rfl, H1.out.2.1.keep mm (fun h => hpq h.symm), H1.out.2.2.1.md mm hp0, H1.out.2.2.2.1.md mm hp3, H1.out.2.2.2.2.set (.inl (.inl rfl)) 0 _⟩
      generalize hW2 : w1.setCell ⟨p, 0, none⟩ (Value.string ⟨(l.drop (upto 60 l).length).toArray⟩) = W2
      have H3 := (show Hid _ from H2.out W2 hW2.symm)
      have K := HU.out W2 H3.out.2.2.1 H3.out.2.2.2.1
      clear hW2 H2 H1 c1 f1 HU
      refine K.mono ?_
      rintro e w3 ⟨⟨x, hx, rfl⟩ | ⟨hx, rfl⟩, hb3⟩
      · have b3 := H3.out.2.1.keep (Md.ofBelow (F := fun _ => False) hb3) (fun h => h)
        have d1 := cell_blk b3 1
        have g1 := frozen_blk b3 1
        simp only [List.getElem?_toArray] at d1
        have H4 : Hid (O = some (x, [], l.drop (upto 60 l).length) ∧ Rd w3 p (l.drop (upto 60 l).length) ∧ Bx w3 q n [] (.slice none 0 0) ∧ Md (fun b => b = p ∨ b = q) w w3) := ⟨by rw [HO.out, hx]; rfl, H3.out.1.keep (Md.ofBelow (F := fun _ => False) hb3) (fun h => h), b3, H3.out.2.2.2.2.below hb3⟩
        clear b3 hb3 hx K
        go_wp2_with fail
        rw [Jmp_ret]
        go_wp2
        go_ret
        refine .inl ⟨x, [], _, none, 0, H4.out.1, rfl, (set_blk H4.out.2.2.1 1 _).trans rfl, Kt.nil _ _ _ _, ?_, H4.out.2.2.2.set (.inl (.inr rfl)) 1 _⟩
        exact H4.out.2.1.keep ((Md.refl (fun b => b = q) w3).set (.inl rfl) 1 _) hpq
      · have b3 := H3.out.2.1.keep (Md.ofBelow (F := fun _ => False) hb3) (fun h => h)
        have d1 := cell_blk b3 1
        have g1 := frozen_blk b3 1
        simp only [List.getElem?_toArray] at d1
        have H4 : Hid (O = none ∧ Md (fun b => b = p ∨ b = q) w w3) := ⟨by rw [HO.out, hx]; rfl, H3.out.2.2.2.2.below hb3⟩
        clear b3 hb3 hx K
        go_wp2_with fail
        rw [Jmp_ret]
        go_wp2
        go_ret
        exact .inr ⟨H4.out.1, rfl, H4.out.2.set (.inl (.inr rfl)) 1 _⟩
    · rw [if_neg hs] at hO
      have HP1 := HP.out (l.drop ((upto 60 l).length + 1)) ⟨#[47]⟩
      rw [show Lib.hasPrefix (l.drop ((upto 60 l).length + 1)) (ByteArray.data ⟨#[47]⟩).toList = false from by simpa using hs] at HP1
      have HO : Hid (O = (kidsF (elemF une k) (l.length + 1) l).map fun p => ([], p.1, p.2)) := hO
      have HW := (show Hid (∀ W q, Rd W p q → Calls Tryz.prog 28 #[.pointer (some ⟨p, 0, none⟩)] W fun e w' => e = .returned (.bool (decide ((skp q).length < q.length))) ∧ Rd w' p (skp q) ∧ Md (fun b => b = p) W w') from fun W q h => white_any p q W h)
      have HEl := (show Hid (∀ (l : List UInt8) (W : World), Rd W p l → Mx W → Er W → l.length ≤ 65536 → Calls Tryz.prog 29 #[.pointer (some ⟨p, 0, none⟩), .int .i64 ((17 - k : Nat) : Int)] W fun e w' => ElR k (elemF une k l) W p e w') from fun l W => HE p l W)
      have hdep : IntKind.i64.wrap (((16 - k : Nat) : Int) + 1) = ((17 - k : Nat) : Int) := by
        rw [show ((16 - k : Nat) : Int) + 1 = ((17 - k : Nat) : Int) by omega]
        exact wrap_small _ (by omega) (by omega)
      obtain ⟨D, hD⟩ : ∃ D : Int, D = ((17 - k : Nat) : Int) := ⟨_, rfl⟩
      obtain ⟨D0, hD0⟩ : ∃ D0 : Int, D0 = ((16 - k : Nat) : Int) := ⟨_, rfl⟩
      rw [← hD] at HEl hdep
      rw [← hD0] at hdep
      rw [← hD0]
      clear hO hn hs h hbx hm he HE hD hD0
      go_enter Tryz.func58, Tryz.ntmps58
      go_wp2_with fail
      refine wp_scope_ahead 0 rfl ?_
      go_wp2_with fail
      refine HC.out.mono ?_
      rintro e w1 ⟨rfl, m, rfl⟩
      have hb1 : Below w.heap.size w (w.drewN m) := below_drewN (Below.refl _ _) _
      generalize w.drewN m = w1 at *
      have H1 : Hid (Rd w1 p l ∧ Bx w1 q n [] (.slice none 0 0) ∧ Mx w1 ∧ Er w1 ∧ Md (fun b => b = p ∨ b = q) w w1) := ⟨H0.out.1.keep (Md.ofBelow (F := fun _ => False) hb1) (fun h => h), H0.out.2.1.keep (Md.ofBelow (F := fun _ => False) hb1) (fun h => h), H0.out.2.2.1.md (Md.ofBelow (F := fun _ => False) hb1) (fun h => h), H0.out.2.2.2.md (Md.ofBelow (F := fun _ => False) hb1) (fun h => h), Md.ofBelow hb1⟩
      clear hb1 c0 f0 HC
      go_wp2_with (go_at_call 87; refine (HP1 _).mono ?_; rintro e w' ⟨rfl, rfl⟩)
      refine (HW.out _ l H1.out.1).mono ?_
      rintro e w2 ⟨rfl, r2, m2⟩
      have H2 : Hid (Rd w2 p (skp l) ∧ Bx w2 q n [] (.slice none 0 0) ∧ Mx w2 ∧ Er w2 ∧ Md (fun b => b = p ∨ b = q) w w2) := ⟨r2, H1.out.2.1.keep m2 (fun h => hpq h.symm), H1.out.2.2.1.md m2 hp0, H1.out.2.2.2.1.md m2 hp3, H1.out.2.2.2.2.then m2 (fun b _ h => .inl h)⟩
      clear r2 m2 H1 HP1
      go_wp2_with fail
      go_loopg [] (l.length + 1) (fun gf wx => ∃ (l' : List UInt8) (ks : List Nod) (v : Value), l'.length ≤ 65536 ∧ l'.length + 1 ≤ gf ∧ ks.length + l'.length ≤ 65536 ∧ Rd wx p (skp l') ∧ Bx wx q n [] v ∧ KR 24 (fun b => w.heap.size ≤ b ∧ v.ownBlock ≠ some b) k wx w.heap.size v ks ∧ Mx wx ∧ Er wx ∧ Md (fun b => b = p ∨ b = q) w wx ∧ O = (kidsF (elemF une k) gf l').map fun p => ([], ks ++ p.1, p.2))
      case atStart => exact ⟨l, [], .slice none 0 0, hl, by omega, by simpa using hl, H2.out.1, H2.out.2.1, KR.nil _ _ _ _ _, H2.out.2.2.1, H2.out.2.2.2.1, H2.out.2.2.2.2, by rw [HO.out]; simp⟩
      case round =>
        obtain ⟨l', ks, v, hl', hf, hkl, hr, hbx, hkr, hM, hEr, hmd, hx⟩ := hrel
        obtain ⟨g', rfl⟩ : ∃ g', gk = g' + 1 := ⟨gk - 1, by omega⟩
        have hsk := skp_le l'
        simp only [kidsF] at hx
        have c1 := cell_blk hr 0
        simp only [List.getElem?_toArray] at c1
        have P1 := HP.out (skp l') ⟨#[60, 47]⟩
        by_cases hs : Lib.hasPrefix (skp l') [60, 47] = true
        · rw [show Lib.hasPrefix (skp l') (ByteArray.data ⟨#[60, 47]⟩).toList = true from hs] at P1
          rw [if_pos hs] at hx
          obtain ⟨a, c, hv⟩ := hkr.slice
          subst hv
          have hkd := hkr.kd (G := fun b => w.heap.size ≤ b ∧ (Value.slice a ks.length c).ownBlock ≠ some b)
          have HZ : Hid (O = some ([], ks, skp l') ∧ Rd wr p (skp l') ∧ Bx wr q n [] (.slice a ks.length c) ∧ Kt (fun b => w.heap.size ≤ b) (k + 1) wr a ks ∧ Md (fun b => b = p ∨ b = q) w wr) := by
            refine ⟨by rw [hx]; simp, hr, hbx, ?_, hmd⟩
            have hkr2 : KR 24 (fun b => w.heap.size ≤ b) k wr w.heap.size (.slice a ks.length c) ks := by
              obtain ⟨hs, hl, ho, hk2⟩ := hkr
              exact ⟨hs, hl, ho, fun j hj => (hk2 j hj).mono (fun b hb _ => hb.1)⟩
            exact hkr2.kt (fun b hb _ _ => hb)
          clear hkd hx hr hbx hkr hM hEr hmd hs HP HEl HW
          go_wp2_with (go_at_call 87; refine (P1 _).mono ?_; rintro e w' ⟨rfl, rfl⟩)
          rw [Jmp_ret]
          go_wp2
          go_ret
          exact .inl ⟨[], ks, _, a, c, HZ.out.1, rfl, HZ.out.2.2.1, HZ.out.2.2.2.1, HZ.out.2.1, HZ.out.2.2.2.2⟩
        · rw [show Lib.hasPrefix (skp l') (ByteArray.data ⟨#[60, 47]⟩).toList = false from by simpa using hs] at P1
          rw [if_neg hs] at hx
          have K := HEl.out (skp l') wr hr hM hEr (by omega)
          have HZ : Hid (O = ((elemF une k (skp l')).bind fun p => (kidsF (elemF une k) g' p.2).map fun q => (p.1 :: q.1, q.2)).map fun p => ([], ks ++ p.1, p.2)) := hx
          have HR : Hid (Bx wr q n [] v ∧ KR 24 (fun b => w.heap.size ≤ b ∧ v.ownBlock ≠ some b) k wr w.heap.size v ks ∧ Mx wr ∧ Er wr ∧ Md (fun b => b = p ∨ b = q) w wr ∧ w.heap.size ≤ wr.heap.size) := ⟨hbx, hkr, hM, hEr, hmd, hmd.size⟩
          clear hx hr hbx hkr hM hEr hmd hs
          go_wp2_with (go_at_call 87; refine (P1 _).mono ?_; rintro e w' ⟨rfl, rfl⟩)
          refine K.mono ?_
          rintro e w3 (⟨t, r, a, c, ho, rfl, hkd, hr3, hm3⟩ | ⟨ho, rfl, hm3⟩)
          · have hel := elem_len une k _ _ _ ho
            have HOt : Hid (O = (kidsF (elemF une k) g' r).map fun p => ([], (ks ++ [t]) ++ p.1, p.2)) := by
              show _ = _
              rw [HZ.out, ho, Option.bind_some, Option.map_map]
              congr 1
              funext x
              simp
            obtain ⟨hs, hlh, hown, hks⟩ := HR.out.2.1
            obtain ⟨a0, c0, hv0⟩ := own_slice hown
            subst hv0
            have HKR := (show Hid (∀ j (hj : j < ks.length), Kd (fun b => w.heap.size ≤ b ∧ (Value.slice a0 ks.length c0).ownBlock ≠ some b) k wr (hs[j]'(by omega)).1 (ks[j]).ks) from hks)
            have hlow := hown.lt
            have hwr := HR.out.2.2.2.2.2
            have hrow : ∀ j, (Value.slice a0 ks.length c0).ownBlock = some j → w.heap.size ≤ j ∧ j < wr.heap.size := hlow
            have hplt : p < w.heap.size := Rd.lt H0.out.1
            have own3 := own_md hown hm3 (fun j hj hf => by have := (hrow j hj).1; omega)
            have hsz3 := hm3.size
            have own5 := ((own3.alloc (.cells #[.string ⟨t.nm.toArray⟩, .string ⟨t.tx.toArray⟩, .slice a t.ks.length c] 24)).alloc (.cells #[.string ⟨#[]⟩, .string ⟨#[]⟩, .slice none 0 0] 24)).drew
            have bq3 := HR.out.1.keep hm3 (fun h => hpq h.symm)
            have HKC := (show Hid (∀ w5, (((w3.alloc (.cells #[.string ⟨t.nm.toArray⟩, .string ⟨t.tx.toArray⟩, .slice a t.ks.length c] 24)).alloc (.cells #[.string ⟨#[]⟩, .string ⟨#[]⟩, .slice none 0 0] 24)).drew).grownBy w5 (Value.slice a0 ks.length c0).ownBlock →
                w5.cell? ⟨w3.heap.size, 0, none⟩ = some (.string ⟨t.nm.toArray⟩) ∧ w5.cell? ⟨w3.heap.size, 1, none⟩ = some (.string ⟨t.tx.toArray⟩) ∧ w5.cell? ⟨w3.heap.size, 2, none⟩ = some (.slice a t.ks.length c) ∧ w5.cell? ⟨q, 2, none⟩ = some (.slice a0 ks.length c0) ∧ w5.frozen? ⟨q, 2, none⟩ = false ∧ Bx w5 q n [] (.slice a0 ks.length c0)) from by
              intro w5 hg
              have hA : (((w3.alloc (.cells #[.string ⟨t.nm.toArray⟩, .string ⟨t.tx.toArray⟩, .slice a t.ks.length c] 24)).alloc (.cells #[.string ⟨#[]⟩, .string ⟨#[]⟩, .slice none 0 0] 24)).drew).heap[w3.heap.size]? = some (.cells #[.string ⟨t.nm.toArray⟩, .string ⟨t.tx.toArray⟩, .slice a t.ks.length c] 24 (0, 0)) := by
                have h1 := heap_alloc_new w3 (.cells #[.string ⟨t.nm.toArray⟩, .string ⟨t.tx.toArray⟩, .slice a t.ks.length c] 24)
                exact keep_blk h1 (((Md.refl (fun _ => False) _).alloc (.cells #[.string ⟨#[]⟩, .string ⟨#[]⟩, .slice none 0 0] 24)).below ((Below.refl _ _).drew)) (fun h => h)
              have hQ := bq3.keep ((((Md.refl (fun _ => False) w3).alloc (.cells #[.string ⟨t.nm.toArray⟩, .string ⟨t.tx.toArray⟩, .slice a t.ks.length c] 24)).alloc (.cells #[.string ⟨#[]⟩, .string ⟨#[]⟩, .slice none 0 0] 24)).below ((Below.refl _ _).drew)) (fun h => h)
              have hA5 := keep_blk hA (Md.ofGrown hg) (fun h => by have := (hrow _ h).2; omega)
              have hQ5 := hQ.keep (Md.ofGrown hg) (fun h => by have h1 := (hrow _ h).1; have h2 := blk_lt H0.out.2.1; omega)
              refine ⟨cell_blk hA5 0, cell_blk hA5 1, cell_blk hA5 2, cell_blk hQ5 2, frozen_blk hQ5 2, hQ5⟩)
            have HFIN := (show Hid (∀ w5 g cap WF, (((w3.alloc (.cells #[.string ⟨t.nm.toArray⟩, .string ⟨t.tx.toArray⟩, .slice a t.ks.length c] 24)).alloc (.cells #[.string ⟨#[]⟩, .string ⟨#[]⟩, .slice none 0 0] 24)).drew).grownBy w5 (Value.slice a0 ks.length c0).ownBlock → w5.ownsRow w.heap.size 24 3 (Value.slice (some ⟨g, 0, none⟩) (ks.length + 1) cap) (ks.length + 1) (ncs ks hs ++ [.string ⟨#[]⟩, .string ⟨#[]⟩, .slice none 0 0]) → ((Value.slice (some ⟨g, 0, none⟩) (ks.length + 1) cap).ownBlock = (Value.slice a0 ks.length c0).ownBlock ∨ ∀ b, (Value.slice (some ⟨g, 0, none⟩) (ks.length + 1) cap).ownBlock = some b → (((w3.alloc (.cells #[.string ⟨t.nm.toArray⟩, .string ⟨t.tx.toArray⟩, .slice a t.ks.length c] 24)).alloc (.cells #[.string ⟨#[]⟩, .string ⟨#[]⟩, .slice none 0 0] 24)).drew).heap.size ≤ b) → (WF = (((w5.setCell ⟨g, ks.length * 3, none⟩ (.string ⟨t.nm.toArray⟩)).setCell ⟨g, ks.length * 3 + 1, none⟩ (.string ⟨t.tx.toArray⟩)).setCell ⟨g, ks.length * 3 + 2, none⟩ (.slice a t.ks.length c)).setCell ⟨q, 2, none⟩ (Value.slice (some ⟨g, 0, none⟩) (ks.length + 1) cap) ∨ WF = ((((w5.setCell ⟨q, 2, none⟩ (Value.slice (some ⟨g, 0, none⟩) (ks.length + 1) cap)).setCell ⟨g, ks.length * 3, none⟩ (.string ⟨t.nm.toArray⟩)).setCell ⟨g, ks.length * 3 + 1, none⟩ (.string ⟨t.tx.toArray⟩)).setCell ⟨g, ks.length * 3 + 2, none⟩ (.slice a t.ks.length c))) →
                Rd WF p r ∧ Bx WF q n [] (Value.slice (some ⟨g, 0, none⟩) (ks.length + 1) cap) ∧ KR 24 (fun b => w.heap.size ≤ b ∧ (Value.slice (some ⟨g, 0, none⟩) (ks.length + 1) cap).ownBlock ≠ some b) k WF w.heap.size (Value.slice (some ⟨g, 0, none⟩) (ks.length + 1) cap) (ks ++ [t]) ∧ Mx WF ∧ Er WF ∧ Md (fun b => b = p ∨ b = q) w WF) from by
              intro w5 g cap WF hg5 ho5 hv5 hWF
              have hqlt : q < w.heap.size := blk_lt H0.out.2.1
              have hgl := (ho5.lt g rfl).1
              have hgq : q ≠ g := by omega
              have bq5 := (HKC.out w5 hg5).2.2.2.2.2
              have key : WF.ownsRow w.heap.size 24 3 (Value.slice (some ⟨g, 0, none⟩) (ks.length + 1) cap) (ks.length + 1) (ncs ks hs ++ [.string ⟨t.nm.toArray⟩, .string ⟨t.tx.toArray⟩, .slice a t.ks.length c]) ∧ Md (fun b => b = g ∨ b = q) w5 WF ∧ Bx WF q n [] (Value.slice (some ⟨g, 0, none⟩) (ks.length + 1) cap) := by
                rcases hWF with rfl | rfl
                · have own6 := own_set3 (.string ⟨t.nm.toArray⟩) (.string ⟨t.tx.toArray⟩) (.slice a t.ks.length c) ho5
                  refine ⟨own_md own6 ((Md.refl (fun b => b = q) _).set (.inl rfl) 2 _) (fun j hj hf => ?_), ?_, ?_⟩
                  · simp only [Value.ownBlock, Option.some.injEq] at hj
                    omega
                  · exact ((((Md.refl _ w5).set (.inl (.inl rfl)) _ _).set (.inl (.inl rfl)) _ _).set (.inl (.inl rfl)) _ _).set (.inl (.inr rfl)) _ _
                  · exact (set_blk (bq5.keep ((((Md.refl (fun b => b = g) w5).set (.inl rfl) _ _).set (.inl rfl) _ _).set (.inl rfl) _ _) hgq) 2 _).trans rfl
                · have own6 := own_md ho5 ((Md.refl (fun b => b = q) w5).set (.inl rfl) 2 (Value.slice (some ⟨g, 0, none⟩) (ks.length + 1) cap)) (fun j hj hf => by
                    simp only [Value.ownBlock, Option.some.injEq] at hj
                    omega)
                  refine ⟨own_set3 (.string ⟨t.nm.toArray⟩) (.string ⟨t.tx.toArray⟩) (.slice a t.ks.length c) own6, ?_, ?_⟩
                  · exact ((((Md.refl _ w5).set (.inl (.inr rfl)) _ _).set (.inl (.inl rfl)) _ _).set (.inl (.inl rfl)) _ _).set (.inl (.inl rfl)) _ _
                  · exact Bx.keep ((set_blk bq5 2 (Value.slice (some ⟨g, 0, none⟩) (ks.length + 1) cap)).trans rfl) ((((Md.refl (fun b => b = g) _).set (.inl rfl) _ _).set (.inl rfl) _ _).set (.inl rfl) _ _) hgq
              have mX : Md (fun _ => False) w3 (((w3.alloc (.cells #[.string ⟨t.nm.toArray⟩, .string ⟨t.tx.toArray⟩, .slice a t.ks.length c] 24)).alloc (.cells #[.string ⟨#[]⟩, .string ⟨#[]⟩, .slice none 0 0] 24)).drew) := (((Md.refl (fun _ => False) w3).alloc (.cells #[.string ⟨t.nm.toArray⟩, .string ⟨t.tx.toArray⟩, .slice a t.ks.length c] 24)).alloc (.cells #[.string ⟨#[]⟩, .string ⟨#[]⟩, .slice none 0 0] 24)).below ((Below.refl _ _).drew)
              have mwX : Md (fun b => b = p ∨ b = q) w (((w3.alloc (.cells #[.string ⟨t.nm.toArray⟩, .string ⟨t.tx.toArray⟩, .slice a t.ks.length c] 24)).alloc (.cells #[.string ⟨#[]⟩, .string ⟨#[]⟩, .slice none 0 0] 24)).drew) := (HR.out.2.2.2.2.1.then hm3 (fun b _ h => .inl h)).then mX (fun b _ h => h.elim)
              have mw5 : Md (fun b => b = p ∨ b = q) w w5 := mwX.grown hg5 (fun j hj => (hrow j hj).1)
              have mwF : Md (fun b => b = p ∨ b = q) w WF := mw5.then key.2.1 (fun b hb h => h.elim (fun h => by omega) .inr)
              refine ⟨?_, key.2.2, ?_, H0.out.2.2.1.md mwF (fun h => h.elim hp0 hq0), H0.out.2.2.2.md mwF (fun h => h.elim hp3 hq3), mwF⟩
              · have r1 := hr3.keep mX (fun h => h)
                have r2 := r1.keep (Md.ofGrown hg5) (fun h => by have := (hrow _ h).1; omega)
                exact r2.keep key.2.1 (fun h => h.elim (fun h => by omega) hpq)
              · refine kr_grow hlh HKR.out ?_ (hm3.then mX (fun b _ h => h.elim)) (fun b _ hL _ hf => by omega) hg5 hv5 key.2.1 (fun b hL hf => by omega) key.1
                exact (hkd.1.mono (fun b hb hlt => ⟨by omega, fun hc => by have := (hrow b hc).2; omega⟩)).md mX (fun b _ _ h => h))
            have HZ5 := (show Hid (∀ j u, [Value.string ⟨#[]⟩, .string ⟨#[]⟩, .slice none 0 0][j]? = some u → (((w3.alloc (.cells #[.string ⟨t.nm.toArray⟩, .string ⟨t.tx.toArray⟩, .slice a t.ks.length c] 24)).alloc (.cells #[.string ⟨#[]⟩, .string ⟨#[]⟩, .slice none 0 0] 24)).drew).cell? ((⟨w3.heap.size + 1, 0, none⟩ : Addr).add j) = some u) from by
              intro j u hu
              have := cell_three_new (w3.alloc (.cells #[.string ⟨t.nm.toArray⟩, .string ⟨t.tx.toArray⟩, .slice a t.ks.length c] 24)) (.string ⟨#[]⟩) (.string ⟨#[]⟩) (.slice none 0 0) 24 j u hu
              have e1 : (w3.alloc (.cells #[.string ⟨t.nm.toArray⟩, .string ⟨t.tx.toArray⟩, .slice a t.ks.length c] 24)).heap.size = w3.heap.size + 1 := by show (w3.heap.push _).size = _; simp
              rw [e1] at this
              exact this)
            have hbase5 : w.heap.size ≤ (((w3.alloc (.cells #[.string ⟨t.nm.toArray⟩, .string ⟨t.tx.toArray⟩, .slice a t.ks.length c] 24)).alloc (.cells #[.string ⟨#[]⟩, .string ⟨#[]⟩, .slice none 0 0] 24)).drew).heap.size := by
              have e1 : (((w3.alloc (.cells #[.string ⟨t.nm.toArray⟩, .string ⟨t.tx.toArray⟩, .slice a t.ks.length c] 24)).alloc (.cells #[.string ⟨#[]⟩, .string ⟨#[]⟩, .slice none 0 0] 24)).drew).heap.size = w3.heap.size + 2 := by show ((w3.heap.push _).push _).size = _; simp
              rw [e1]
              omega
            have cq := cell_blk bq3 2
            have fq := frozen_blk bq3 2
            simp only [List.getElem?_toArray] at cq
            unfold ndV
            obtain ⟨i0, hi, hz0, hz1, hz2⟩ := info_parts info24
            have hqs : q < w3.heap.size := blk_lt bq3
            have hqlt : q < w.heap.size := blk_lt H0.out.2.1
            have hnkb : ks.length ≤ 65536 := by omega
            have hidx : (ks.length : Int) < (ks.length : Int) + 1 := by omega
            go_wp2_with fail
            go_region_law
              (first
                | (refine step_append_two rfl (.tmp 66) (.tmp 69) 22 rfl w.heap.size 24 i0 (.agg #[.string ⟨#[]⟩, .string ⟨#[]⟩, .slice none 0 0]) 3 56 Tryz.underlying22 hi hz0 hz1 hz2 rfl (by decide) _ ks.length _ rfl own5 ⟨w3.heap.size + 1, 0, none⟩ 1 1 [.string ⟨#[]⟩, .string ⟨#[]⟩, .slice none 0 0] rfl rfl HZ5.out (three_one _ _ _ _ _) (by unfold maxLen; omega) (by omega) hbase5 ?_; intro v5 w5 hown5 hgrow5 hvb5; obtain ⟨g, cap, rfl, hg1, hg2, hcap, hcm, z1, z2, z3, hfz⟩ := own_at hown5; obtain ⟨k0, k1, k2, q2, f2, bq5⟩ := HKC.out w5 hgrow5; have hgq : ¬ g = q := (by omega); have hqg : ¬ q = g := (by omega)))
            all_goals
              have HF := (show Hid (∀ WF, _ → _) from fun WF hWF => HFIN.out w5 g cap WF hgrow5 hown5 hvb5 hWF)
              generalize hWF : World.setCell _ _ _ = WF
              have HG : Hid (Rd WF p r ∧ Bx WF q n [] (Value.slice (some ⟨g, 0, none⟩) (ks.length + 1) cap) ∧ KR 24 (fun b => w.heap.size ≤ b ∧ (Value.slice (some ⟨g, 0, none⟩) (ks.length + 1) cap).ownBlock ≠ some b) k WF w.heap.size (Value.slice (some ⟨g, 0, none⟩) (ks.length + 1) cap) (ks ++ [t]) ∧ Mx WF ∧ Er WF ∧ Md (fun b => b = p ∨ b = q) w WF) := by
                first
                  | exact HF.out WF (.inl hWF.symm)
                  | exact HF.out WF (.inr hWF.symm)
              clear HF hWF hgrow5 hown5 hvb5 z1 z2 z3 hfz k0 k1 k2 q2 f2 bq5 own5 hcap hcm hg1 hg2
              have K9 := HW.out WF r HG.out.1
              go_wp2_with fail
              refine K9.mono ?_
              rintro e w9 ⟨rfl, r9, m9⟩
              have H9 : Hid (Rd w9 p (skp r) ∧ Bx w9 q n [] (Value.slice (some ⟨g, 0, none⟩) (ks.length + 1) cap) ∧ KR 24 (fun b => w.heap.size ≤ b ∧ (Value.slice (some ⟨g, 0, none⟩) (ks.length + 1) cap).ownBlock ≠ some b) k w9 w.heap.size (Value.slice (some ⟨g, 0, none⟩) (ks.length + 1) cap) (ks ++ [t]) ∧ Mx w9 ∧ Er w9 ∧ Md (fun b => b = p ∨ b = q) w w9) :=
                ⟨r9, HG.out.2.1.keep m9 (fun h => hpq h.symm), HG.out.2.2.1.md m9 (fun b _ hb hf => by
                  subst hf
                  rcases hb with hb | hb
                  · omega
                  · obtain ⟨hs', _, ho', _⟩ := HG.out.2.2.1
                    have := (ho'.lt _ hb).1
                    omega), HG.out.2.2.2.1.md m9 hp0, HG.out.2.2.2.2.1.md m9 hp3, HG.out.2.2.2.2.2.then m9 (fun b _ h => .inl h)⟩
              clear r9 m9 HG K9
              go_wp2
              go_roundg g'
              case measure => omega
              case rel => exact ⟨r, ks ++ [t], _, by omega, by omega, by simp; omega, H9.out.1, H9.out.2.1, H9.out.2.2.1, H9.out.2.2.2.1, H9.out.2.2.2.2.1, H9.out.2.2.2.2.2, HOt.out⟩
          · have HF : Hid (O = none ∧ Md (fun b => b = p ∨ b = q) w w3) := ⟨by rw [HZ.out, ho]; rfl, HR.out.2.2.2.2.1.then hm3 (fun b _ h => .inl h)⟩
            clear ho hm3 K
            unfold ndZ
            go_wp2_with fail
            go_step3
            refine ⟨rfl, ?_⟩
            go_wp2
            rw [Exit.noGoto_ret]
            go_wp2
            go_ret
            exact .inr ⟨HF.out.1, rfl, HF.out.2.alloc _⟩
end Go.Proofs.YtohkocknpmnakaaGreatDoor.T
/-
  Elements: the same.
-/
namespace Go.Proofs.YtohkocknpmnakaaGreatDoor.T
open Go.RowKit

theorem elem_zero : ElC 0 := by
  intro p l W h hm he hl
  have hS := ES.start h hm he
  have c0 := cell_blk hS.rs 0
  have f0 := frozen_blk hS.rs 0
  have c1 := cell_blk hS.rs 1
  have f1 := frozen_blk hS.rs 1
  have c2 := cell_blk hS.rs 2
  have f2 := frozen_blk hS.rs 2
  have HM : Hid (Md (fun b => b = p) W ((W.alloc (.cells #[.string ⟨#[]⟩, .string ⟨#[]⟩, .slice none 0 0] 24)).alloc (.cells #[.string ⟨#[]⟩, .string ⟨#[]⟩, .slice none 0 0] 24))) := hS.md
  simp only [List.getElem?_toArray] at c0 c1 c2
  have e17 : ((17 - 0 : Nat) : Int) = 17 := rfl
  rw [e17]
  clear hS h hm he e17
  go_enter Tryz.func29, Tryz.ntmps29
  go_wp2_with fail
  refine wp_scope_ahead 0 rfl ?_
  go_wp2_with fail
  go_step3
  refine ⟨rfl, ?_⟩
  go_wp2
  rw [Exit.noGoto_ret]
  go_wp2
  exact bodyPost_ret (v := .tuple #[ndZ, .bool false]) (by simp [results, Tryz.results29, go_sem, ndZ]) rfl (.inr ⟨rfl, rfl, HM.out⟩)

set_option maxRecDepth 20000 in
set_option maxHeartbeats 3200000 in
theorem elem_succ (k : Nat) (hk : k ≤ 15) (HE : ElC k) : ElC (k + 1) := by
  intro p l w h hm he hl
  rw [show 17 - (k + 1) = 16 - k by omega]
  have hp0 := h.pos hm
  have hp3 := h.pos3 he
  have hplt := h.lt
  have h3lt := he.pos
  have hS0 := ES.start h hm he
  have hdep : ¬ (16 : Int) < ((16 - k : Nat) : Int) := by omega
  have HCo := (show Hid (∀ (q : Nat) (l n : List UInt8) (W : World), Rd W p l → Bx W q n [] (.slice none 0 0) → p ≠ q → Mx W → Er W → l.length ≤ 65536 → Calls Tryz.prog 58 #[.pointer (some ⟨p, 0, none⟩), .pointer (some ⟨q, 0, none⟩), .int .i64 ((16 - k : Nat) : Int)] W fun e w' => CoR k (contF une (elemF une k) l) W p q n e w') from fun q l n W h1 h2 h3 h4 h5 h6 => content_any k hk HE p q l n W h1 h2 h3 h4 h5 h6)
  obtain ⟨D, hD⟩ : ∃ D : Int, D = ((16 - k : Nat) : Int) := ⟨_, rfl⟩
  rw [← hD] at hdep HCo
  rw [← hD]
  have HW := (show Hid (∀ W q, Rd W p q → Calls Tryz.prog 28 #[.pointer (some ⟨p, 0, none⟩)] W fun e w' => e = .returned (.bool (decide ((skp q).length < q.length))) ∧ Rd w' p (skp q) ∧ Md (fun b => b = p) W w') from fun W q h => white_any p q W h)
  have HN := (show Hid (∀ W q, Rd W p q → q.length ≤ 65536 → Calls Tryz.prog 56 #[.pointer (some ⟨p, 0, none⟩)] W fun e w' => e = .returned (.string ⟨(nmL q).toArray⟩) ∧ Rd w' p (q.drop (nmL q).length) ∧ Md (fun b => b = p) W w') from fun W q h h2 => name_any p q W h h2)
  have HY := (show Hid (∀ W q r x, Rd W p q → eat (ByteArray.data x).toList q = some r → Calls Tryz.prog 52 #[.pointer (some ⟨p, 0, none⟩), .string x] W fun e w' => e = .returned (.bool true) ∧ Rd w' p r ∧ Md (fun b => b = p) W w') from fun W q r x h h2 => take_yes p q r x W h h2)
  have HO := (show Hid (∀ W q x, Rd W p q → eat (ByteArray.data x).toList q = none → Calls Tryz.prog 52 #[.pointer (some ⟨p, 0, none⟩), .string x] W fun e w' => e = .returned (.bool false) ∧ Rd w' p q ∧ Md (fun b => b = p) W w') from fun W q x h h2 => take_no p q x W h h2)
  have HA := (show Hid (∀ W q, Rd W p q → Mx W → q.length ≤ 65536 → Calls Tryz.prog 57 #[.pointer (some ⟨p, 0, none⟩)] W fun e w' => e = .returned (.bool (atsF (q.length + 1) q).isSome) ∧ (∀ r, atsF (q.length + 1) q = some r → Rd w' p r) ∧ Md (fun b => b = p) W w') from fun W q h h2 h3 => attrs_any p q W h h2 h3)
  obtain ⟨X, hX⟩ : ∃ X, X = elemF une (k + 1) l := ⟨_, rfl⟩
  rw [← hX]
  rw [elemF_eq] at hX
  have HSt : Hid (ES w _ p l [] [] (.slice none 0 0)) := hS0
  clear hS0 h hm he hD HE
  cases he1 : eat [60] l with
  | none =>
    have HF : Hid (X = none) := by rw [he1] at hX; exact hX
    have K := HO.out _ l ⟨#[60]⟩ HSt.out.rd he1
    clear he1 hX
    go_enter Tryz.func29, Tryz.ntmps29
    go_wp2_with fail
    refine wp_scope_ahead 0 rfl ?_
    go_wp2_with fail
    refine K.mono ?_
    rintro e w1 ⟨rfl, r1, m1⟩
    have S1 : Hid (ES w w1 p l [] [] (.slice none 0 0)) := HSt.out.step hplt hp0 hp3 m1 r1
    clear r1 m1 K HSt
    obtain ⟨⟨c0, c1, c2⟩, f0, f1, f2⟩ := Bx.cells S1.out.rs
    go_wp2_with fail
    go_step3
    refine ⟨rfl, ?_⟩
    go_wp2
    rw [Exit.noGoto_ret]
    go_wp2
    exact bodyPost_ret (v := .tuple #[ndZ, .bool false]) (by simp [results, Tryz.results29, go_sem, ndZ, c0, c1, c2]) rfl (.inr ⟨HF.out, rfl, (((S1.out.md).set (.inr (Nat.le_refl _)) 0 _).set (.inr (Nat.le_refl _)) 1 _).set (.inr (Nat.le_refl _)) 2 _⟩)
  | some l1 =>
    have hl1 := (eat_len he1).1
    simp only [List.length_cons, List.length_nil] at hl1
    have hX1 : X = if nmL l1 = [] then none else (atsF ((l1.drop (nmL l1).length).length + 1) (l1.drop (nmL l1).length)).bind fun r => restF une (elemF une k) (nmL l1) r := by rw [he1] at hX; exact hX
    have K1 := HY.out _ l l1 ⟨#[60]⟩ HSt.out.rd he1
    clear he1 hX
    go_enter Tryz.func29, Tryz.ntmps29
    go_wp2_with fail
    refine wp_scope_ahead 0 rfl ?_
    go_wp2_with fail
    refine K1.mono ?_
    rintro e w1 ⟨rfl, r1, m1⟩
    have S1 : Hid (ES w w1 p l1 [] [] (.slice none 0 0)) := HSt.out.step hplt hp0 hp3 m1 r1
    clear r1 m1 K1 HSt
    have K2 := HN.out w1 l1 S1.out.rd (by omega)
    obtain ⟨s, hs⟩ : ∃ s : ByteArray, s = ⟨(nmL l1).toArray⟩ := ⟨_, rfl⟩
    have HSs : Hid (s = ⟨(nmL l1).toArray⟩ ∧ s.data.toList = nmL l1) := ⟨hs, by rw [hs]⟩
    rw [← hs] at K2
    go_wp2_with fail
    refine K2.mono ?_
    rintro e w2 ⟨rfl, r2, m2⟩
    have S2 : Hid (ES w w2 p (l1.drop (nmL l1).length) [] [] (.slice none 0 0)) := S1.out.step hplt hp0 hp3 m2 r2
    obtain ⟨⟨b0, b1, b2⟩, g0, g1, g2⟩ := Bx.cells S2.out.bx
    have S3 : Hid (ES w (w2.setCell ⟨w.heap.size + 1, 0, none⟩ (.string s)) p (l1.drop (nmL l1).length) (nmL l1) [] (.slice none 0 0)) := by
      rw [hs]
      exact S2.out.setN hplt h3lt
    clear r2 m2 K2 S1 S2
    by_cases hn : nmL l1 = []
    · have HF : Hid (X = none) := by rw [if_pos hn] at hX1; exact hX1
      have hse : s.toList.isEmpty = true := by rw [Lib.toList_data, HSs.out.2, hn]; rfl
      have d0 : (w2.setCell ⟨w.heap.size + 1, 0, none⟩ (.string s)).cell? ⟨w.heap.size + 1, 0, none⟩ = some (.string s) := by
        have := (Bx.cells S3.out.bx).1.1
        rw [← hs] at this
        exact this
      clear hX1 hn hs
      obtain ⟨⟨c0, c1, c2⟩, f0, f1, f2⟩ := Bx.cells S3.out.rs
      go_wp2_with fail
      go_step3
      refine ⟨rfl, ?_⟩
      go_wp2
      rw [Exit.noGoto_ret]
      go_wp2
      exact bodyPost_ret (v := .tuple #[ndZ, .bool false]) (by simp [results, Tryz.results29, go_sem, ndZ, c0, c1, c2]) rfl (.inr ⟨HF.out, rfl, (((S3.out.md).set (.inr (Nat.le_refl _)) 0 _).set (.inr (Nat.le_refl _)) 1 _).set (.inr (Nat.le_refl _)) 2 _⟩)
    · have hse : s.toList.isEmpty = false := by
        rw [Lib.toList_data, HSs.out.2]
        cases h : nmL l1 with
        | nil => exact absurd h hn
        | cons a b => rfl
      have hX2 : X = (atsF ((l1.drop (nmL l1).length).length + 1) (l1.drop (nmL l1).length)).bind fun r => restF une (elemF une k) (nmL l1) r := by rw [if_neg hn] at hX1; exact hX1
      have hl2 : (l1.drop (nmL l1).length).length ≤ l1.length := by simp
      generalize hnm : nmL l1 = nm at *
      generalize hl2e : l1.drop nm.length = l2 at *
      have K3 := HA.out _ l2 S3.out.rd S3.out.mx (by omega)
      clear hX1 hn hs hnm hl2e
      cases ha : atsF (l2.length + 1) l2 with
      | none =>
        have HF : Hid (X = none) := by rw [ha] at hX2; exact hX2
        rw [ha] at K3
        clear ha hX2
        go_wp2_with fail
        refine K3.mono ?_
        rintro e w4 ⟨rfl, -, m4⟩
        have R4 : Hid (Bx w4 w.heap.size [] [] (.slice none 0 0) ∧ Md (fun b => b = p) w w4) := ⟨S3.out.rs.keep m4 (by omega), S3.out.md.trans m4⟩
        clear m4 K3 S3
        obtain ⟨⟨c0, c1, c2⟩, f0, f1, f2⟩ := Bx.cells R4.out.1
        go_wp2_with fail
        go_step3
        refine ⟨rfl, ?_⟩
        go_wp2
        rw [Exit.noGoto_ret]
        go_wp2
        exact bodyPost_ret (v := .tuple #[ndZ, .bool false]) (by simp [results, Tryz.results29, go_sem, ndZ, c0, c1, c2]) rfl (.inr ⟨HF.out, rfl, (((R4.out.2).set (.inr (Nat.le_refl _)) 0 _).set (.inr (Nat.le_refl _)) 1 _).set (.inr (Nat.le_refl _)) 2 _⟩)
      | some r =>
        have hrl := ats_len ha
        have hX3 : X = restF une (elemF une k) nm r := by rw [ha] at hX2; exact hX2
        rw [ha] at K3
        clear ha hX2
        go_wp2_with fail
        refine K3.mono ?_
        rintro e w4 ⟨rfl, r4, m4⟩
        have S4 : Hid (ES w w4 p r nm [] (.slice none 0 0)) := S3.out.step hplt hp0 hp3 m4 (r4 r rfl)
        clear r4 m4 K3 S3 b0 b1 b2 g0 g1 g2
        unfold restF at hX3
        cases he5 : eat [47, 62] r with
        | some r5 =>
          have HF : Hid (X = some (.nd nm [] [], r5)) := by rw [he5] at hX3; exact hX3
          have K5 := HY.out w4 r r5 ⟨#[47, 62]⟩ S4.out.rd he5
          clear he5 hX3
          go_wp2_with fail
          refine K5.mono ?_
          rintro e w5 ⟨rfl, r5', m5⟩
          have S5 : Hid (ES w w5 p r5 nm [] (.slice none 0 0)) := S4.out.step hplt hp0 hp3 m5 r5'
          clear r5' m5 K5 S4
          obtain ⟨⟨c0, c1, c2⟩, f0, f1, f2⟩ := Bx.cells S5.out.rs
          obtain ⟨⟨b0, b1, b2⟩, g0, g1, g2⟩ := Bx.cells S5.out.bx
          go_wp2_with fail
          rw [Jmp_ret]
          go_wp2
          have mm : Md (fun b => b = w.heap.size) w5 (((w5.setCell ⟨w.heap.size, 0, none⟩ (.string ⟨nm.toArray⟩)).setCell ⟨w.heap.size, 1, none⟩ (.string ⟨#[]⟩)).setCell ⟨w.heap.size, 2, none⟩ (.slice none 0 0)) := (((Md.refl (fun b => b = w.heap.size) w5).set (.inl rfl) 0 _).set (.inl rfl) 1 _).set (.inl rfl) 2 _
          refine bodyPost_ret (v := .tuple #[ndV (.nd nm [] []) none 0, .bool true]) (by simp [results, Tryz.results29, go_sem, ndV, Nod.nm, Nod.tx, Nod.ks, c0, c1, c2]) rfl (.inl ⟨.nd nm [] [], r5, none, 0, HF.out, rfl, ?_, ?_, ?_⟩)
          · exact Kt.nil _ _ _ _
          · exact S5.out.rd.keep mm (by omega)
          · exact ((S5.out.md.set (.inr (Nat.le_refl _)) 0 _).set (.inr (Nat.le_refl _)) 1 _).set (.inr (Nat.le_refl _)) 2 _
        | none =>
          have K5 := HO.out w4 r ⟨#[47, 62]⟩ S4.out.rd he5
          have hX4 : X = (eat [62] r).bind fun r1 => (contF une (elemF une k) r1).bind fun p => (closeL nm p.2.2).map fun r3 => (.nd nm p.1 p.2.1, r3) := by rw [he5] at hX3; exact hX3
          clear he5 hX3
          go_wp2_with fail
          refine K5.mono ?_
          rintro e w5 ⟨rfl, r5', m5⟩
          have S5 : Hid (ES w w5 p r nm [] (.slice none 0 0)) := S4.out.step hplt hp0 hp3 m5 r5'
          clear r5' m5 K5 S4
          cases he6 : eat [62] r with
          | none =>
            have HF : Hid (X = none) := by rw [he6] at hX4; exact hX4
            have K6 := HO.out w5 r ⟨#[62]⟩ S5.out.rd he6
            clear he6 hX4
            go_wp2_with fail
            refine K6.mono ?_
            rintro e w6 ⟨rfl, r6', m6⟩
            have R4 : Hid (Bx w6 w.heap.size [] [] (.slice none 0 0) ∧ Md (fun b => b = p) w w6) := ⟨S5.out.rs.keep m6 (by omega), S5.out.md.trans m6⟩
            clear r6' m6 K6 S5
            obtain ⟨⟨c0, c1, c2⟩, f0, f1, f2⟩ := Bx.cells R4.out.1
            go_wp2_with fail
            go_step3
            refine ⟨rfl, ?_⟩
            go_wp2
            rw [Exit.noGoto_ret]
            go_wp2
            exact bodyPost_ret (v := .tuple #[ndZ, .bool false]) (by simp [results, Tryz.results29, go_sem, ndZ, c0, c1, c2]) rfl (.inr ⟨HF.out, rfl, (((R4.out.2).set (.inr (Nat.le_refl _)) 0 _).set (.inr (Nat.le_refl _)) 1 _).set (.inr (Nat.le_refl _)) 2 _⟩)
          | some r6 =>
            have hr6 := (eat_len he6).1
            simp only [List.length_cons, List.length_nil] at hr6
            have hX5 : X = (contF une (elemF une k) r6).bind fun p => (closeL nm p.2.2).map fun r3 => (.nd nm p.1 p.2.1, r3) := by rw [he6] at hX4; exact hX4
            have K6 := HY.out w5 r r6 ⟨#[62]⟩ S5.out.rd he6
            clear he6 hX4
            go_wp2_with fail
            refine K6.mono ?_
            rintro e w6 ⟨rfl, r6', m6⟩
            have S6 : Hid (ES w w6 p r6 nm [] (.slice none 0 0)) := S5.out.step hplt hp0 hp3 m6 r6'
            clear r6' m6 K6 S5
            have K7 := HCo.out (w.heap.size + 1) r6 nm w6 S6.out.rd S6.out.bx (by omega) S6.out.mx S6.out.er (by omega)
            go_wp2_with fail
            refine K7.mono ?_
            rintro e w7 (⟨x, ks, r7, a, c, ho, rfl, bx7, kd7, rd7, m7⟩ | ⟨ho, rfl, m7⟩)
            · have hr7 := cont_len (elem_len une k) ho
              have hw6 := blk_lt S6.out.bx
              have S7 : Hid (ES w w7 p r7 nm x (.slice a ks.length c) ∧ Kt (fun b => w.heap.size + 2 ≤ b) (k + 1) w7 a ks) := ⟨⟨rd7, bx7, S6.out.rs.keep m7 (by omega), S6.out.mx.md m7 (by omega), S6.out.er.md m7 (by omega), S6.out.md.then m7 (fun b hb h => h.elim id (fun h => by omega))⟩, kd7.mono (fun b hb _ => by omega)⟩
              have hX6 : X = (closeL nm r7).map fun r3 => (.nd nm x ks, r3) := by rw [ho] at hX5; exact hX5
              unfold closeL at hX6
              clear ho hX5 bx7 kd7 rd7 m7 K7 S6 hw6
              cases he8 : eat [60, 47] r7 with
              | none =>
                have HF : Hid (X = none) := by rw [he8] at hX6; exact hX6
                have K8 := HO.out w7 r7 ⟨#[60, 47]⟩ S7.out.1.rd he8
                clear he8 hX6
                go_wp2_with fail
                refine K8.mono ?_
                rintro e w8 ⟨rfl, r8', m8⟩
                have R4 : Hid (Bx w8 w.heap.size [] [] (.slice none 0 0) ∧ Md (fun b => b = p) w w8) := ⟨S7.out.1.rs.keep m8 (by omega), S7.out.1.md.trans m8⟩
                clear r8' m8 K8 S7
                obtain ⟨⟨c0, c1, c2⟩, f0, f1, f2⟩ := Bx.cells R4.out.1
                go_wp2_with fail
                go_step3
                refine ⟨rfl, ?_⟩
                go_wp2
                rw [Exit.noGoto_ret]
                go_wp2
                exact bodyPost_ret (v := .tuple #[ndZ, .bool false]) (by simp [results, Tryz.results29, go_sem, ndZ, c0, c1, c2]) rfl (.inr ⟨HF.out, rfl, (((R4.out.2).set (.inr (Nat.le_refl _)) 0 _).set (.inr (Nat.le_refl _)) 1 _).set (.inr (Nat.le_refl _)) 2 _⟩)
              | some r8 =>
                have hr8 := (eat_len he8).1
                simp only [List.length_cons, List.length_nil] at hr8
                have hX7 : X = ((eat nm r8).bind fun b => eat [62] (skp b)).map fun r3 => (.nd nm x ks, r3) := by rw [he8] at hX6; exact hX6
                have K8 := HY.out w7 r7 r8 ⟨#[60, 47]⟩ S7.out.1.rd he8
                clear he8 hX6
                go_wp2_with fail
                refine K8.mono ?_
                rintro e w8 ⟨rfl, r8', m8⟩
                have S8 : Hid (ES w w8 p r8 nm x (.slice a ks.length c) ∧ Kt (fun b => w.heap.size + 2 ≤ b) (k + 1) w8 a ks) := ⟨S7.out.1.step hplt hp0 hp3 m8 r8', S7.out.2.md m8 (fun b _ h1 h2 => by omega)⟩
                clear r8' m8 K8 S7
                have d0 : w8.cell? ⟨w.heap.size + 1, 0, none⟩ = some (.string s) := by
                  have := (Bx.cells S8.out.1.bx).1.1
                  rw [← HSs.out.1] at this
                  exact this
                cases he9 : eat nm r8 with
                | none =>
                  have HF : Hid (X = none) := by rw [he9] at hX7; exact hX7
                  have K9 := HO.out w8 r8 s S8.out.1.rd (by rw [HSs.out.2]; exact he9)
                  clear he9 hX7
                  go_wp2_with fail
                  refine K9.mono ?_
                  rintro e w9 ⟨rfl, r9', m9⟩
                  have R4 : Hid (Bx w9 w.heap.size [] [] (.slice none 0 0) ∧ Md (fun b => b = p) w w9) := ⟨S8.out.1.rs.keep m9 (by omega), S8.out.1.md.trans m9⟩
                  clear r9' m9 K9 S8 d0
                  obtain ⟨⟨c0, c1, c2⟩, f0, f1, f2⟩ := Bx.cells R4.out.1
                  go_wp2_with fail
                  go_step3
                  refine ⟨rfl, ?_⟩
                  go_wp2
                  rw [Exit.noGoto_ret]
                  go_wp2
                  exact bodyPost_ret (v := .tuple #[ndZ, .bool false]) (by simp [results, Tryz.results29, go_sem, ndZ, c0, c1, c2]) rfl (.inr ⟨HF.out, rfl, (((R4.out.2).set (.inr (Nat.le_refl _)) 0 _).set (.inr (Nat.le_refl _)) 1 _).set (.inr (Nat.le_refl _)) 2 _⟩)
                | some r9 =>
                  have hX8 : X = (eat [62] (skp r9)).map fun r3 => (.nd nm x ks, r3) := by rw [he9] at hX7; exact hX7
                  have K9 := HY.out w8 r8 r9 s S8.out.1.rd (by rw [HSs.out.2]; exact he9)
                  clear he9 hX7
                  go_wp2_with fail
                  refine K9.mono ?_
                  rintro e w9 ⟨rfl, r9', m9⟩
                  have S9 : Hid (ES w w9 p r9 nm x (.slice a ks.length c) ∧ Kt (fun b => w.heap.size + 2 ≤ b) (k + 1) w9 a ks) := ⟨S8.out.1.step hplt hp0 hp3 m9 r9', S8.out.2.md m9 (fun b _ h1 h2 => by omega)⟩
                  clear r9' m9 K9 S8 d0
                  go_wp2_with fail
                  refine (HW.out _ r9 S9.out.1.rd).mono ?_
                  rintro e w10 ⟨rfl, r10', m10⟩
                  have S10 : Hid (ES w w10 p (skp r9) nm x (.slice a ks.length c) ∧ Kt (fun b => w.heap.size + 2 ≤ b) (k + 1) w10 a ks) := ⟨S9.out.1.step hplt hp0 hp3 m10 r10', S9.out.2.md m10 (fun b _ h1 h2 => by omega)⟩
                  clear r10' m10 S9
                  cases he11 : eat [62] (skp r9) with
                  | none =>
                    have HF : Hid (X = none) := by rw [he11] at hX8; exact hX8
                    have K11 := HO.out w10 _ ⟨#[62]⟩ S10.out.1.rd he11
                    clear he11 hX8
                    go_wp2_with fail
                    refine K11.mono ?_
                    rintro e w11 ⟨rfl, r11', m11⟩
                    have R4 : Hid (Bx w11 w.heap.size [] [] (.slice none 0 0) ∧ Md (fun b => b = p) w w11) := ⟨S10.out.1.rs.keep m11 (by omega), S10.out.1.md.trans m11⟩
                    clear r11' m11 K11 S10
                    obtain ⟨⟨c0, c1, c2⟩, f0, f1, f2⟩ := Bx.cells R4.out.1
                    go_wp2_with fail
                    go_step3
                    refine ⟨rfl, ?_⟩
                    go_wp2
                    rw [Exit.noGoto_ret]
                    go_wp2
                    exact bodyPost_ret (v := .tuple #[ndZ, .bool false]) (by simp [results, Tryz.results29, go_sem, ndZ, c0, c1, c2]) rfl (.inr ⟨HF.out, rfl, (((R4.out.2).set (.inr (Nat.le_refl _)) 0 _).set (.inr (Nat.le_refl _)) 1 _).set (.inr (Nat.le_refl _)) 2 _⟩)
                  | some r11 =>
                    have HF : Hid (X = some (.nd nm x ks, r11)) := by rw [he11] at hX8; exact hX8
                    have K11 := HY.out w10 _ r11 ⟨#[62]⟩ S10.out.1.rd he11
                    clear he11 hX8
                    go_wp2_with fail
                    refine K11.mono ?_
                    rintro e w11 ⟨rfl, r11', m11⟩
                    have S11 : Hid (ES w w11 p r11 nm x (.slice a ks.length c) ∧ Kt (fun b => w.heap.size + 2 ≤ b) (k + 1) w11 a ks) := ⟨S10.out.1.step hplt hp0 hp3 m11 r11', S10.out.2.md m11 (fun b _ h1 h2 => by omega)⟩
                    clear r11' m11 K11 S10
                    obtain ⟨⟨c0, c1, c2⟩, f0, f1, f2⟩ := Bx.cells S11.out.1.rs
                    obtain ⟨⟨b0, b1, b2⟩, g0, g1, g2⟩ := Bx.cells S11.out.1.bx
                    go_wp2_with fail
                    rw [Jmp_ret]
                    go_wp2
                    have mm : Md (fun b => b = w.heap.size) w11 (((w11.setCell ⟨w.heap.size, 0, none⟩ (.string ⟨nm.toArray⟩)).setCell ⟨w.heap.size, 1, none⟩ (.string ⟨x.toArray⟩)).setCell ⟨w.heap.size, 2, none⟩ (.slice a ks.length c)) := (((Md.refl (fun b => b = w.heap.size) w11).set (.inl rfl) 0 _).set (.inl rfl) 1 _).set (.inl rfl) 2 _
                    refine bodyPost_ret (v := .tuple #[ndV (.nd nm x ks) a c, .bool true]) (by simp [results, Tryz.results29, go_sem, ndV, Nod.nm, Nod.tx, Nod.ks, c0, c1, c2]) rfl (.inl ⟨.nd nm x ks, r11, a, c, HF.out, rfl, ?_, ?_, ?_⟩)
                    · exact (S11.out.2.md mm (fun b _ h1 h2 => by omega)).mono (fun b hb _ => by omega)
                    · exact S11.out.1.rd.keep mm (by omega)
                    · exact ((S11.out.1.md.set (.inr (Nat.le_refl _)) 0 _).set (.inr (Nat.le_refl _)) 1 _).set (.inr (Nat.le_refl _)) 2 _
            · have HF : Hid (X = none) := by rw [ho] at hX5; exact hX5
              have R4 : Hid (Bx w7 w.heap.size [] [] (.slice none 0 0) ∧ Md (fun b => b = p) w w7) := ⟨S6.out.rs.keep m7 (by omega), S6.out.md.then m7 (fun b hb h => h.elim id (fun h => by omega))⟩
              clear ho hX5 m7 K7 S6
              obtain ⟨⟨c0, c1, c2⟩, f0, f1, f2⟩ := Bx.cells R4.out.1
              go_wp2_with fail
              go_step3
              refine ⟨rfl, ?_⟩
              go_wp2
              rw [Exit.noGoto_ret]
              go_wp2
              exact bodyPost_ret (v := .tuple #[ndZ, .bool false]) (by simp [results, Tryz.results29, go_sem, ndZ, c0, c1, c2]) rfl (.inr ⟨HF.out, rfl, (((R4.out.2).set (.inr (Nat.le_refl _)) 0 _).set (.inr (Nat.le_refl _)) 1 _).set (.inr (Nat.le_refl _)) 2 _⟩)
end Go.Proofs.YtohkocknpmnakaaGreatDoor.T
/-
  Parse: the same.
-/
namespace Go.Proofs.YtohkocknpmnakaaGreatDoor.T
open Go.RowKit

theorem elem_all : ∀ k, k ≤ 16 → ElC k
  | 0, _ => elem_zero
  | k + 1, h => elem_succ k (by omega) (elem_all k (by omega))
/-- What Parse tells. -/
def PaR (l : List UInt8) (W : World) (e : Ending) (w' : World) : Prop :=
  Below W.heap.size W w' ∧
  ((65536 < l.length ∧ e = .returned (.tuple #[ndZ, .int .i64 2])) ∨
   (l.length ≤ 65536 ∧ prsL l = none ∧ e = .returned (.tuple #[ndZ, .int .i64 130])) ∨
   (l.length ≤ 65536 ∧ ∃ t a c, prsL l = some t ∧ e = .returned (.tuple #[ndV t a c, .int .i64 0]) ∧ Kt (fun b => W.heap.size ≤ b) 16 w' a t.ks))
set_option maxRecDepth 20000 in
set_option maxHeartbeats 3200000 in
theorem parse_any (l : List UInt8) (w : World) (hs : l.length ≤ maxLen) (hm : Mx w) (he : Er w) :
    Calls Tryz.prog 9 #[.string ⟨l.toArray⟩] w fun e w' => PaR l w e w' := by
  have hz : l.length ≤ 9223372036854775807 := by unfold maxLen at hs; exact hs
  have h3 := he.pos
  have HS0 : Hid (PS w _ l) := PS.start hm he
  by_cases hlong : 65536 < l.length
  · have hli : (65536 : Int) < (l.length : Int) := by omega
    obtain ⟨⟨c0, c1, c2⟩, f0, f1, f2⟩ := Bx.cells HS0.out.rs
    go_enter Tryz.func9, Tryz.ntmps9
    go_wp2_with fail
    refine wp_scope_ahead 0 rfl ?_
    go_wp2_with fail
    rw [Jmp_ret]
    go_wp2
    refine bodyPost_ret (v := .tuple #[ndZ, .int .i64 2]) (by simp [results, Tryz.results9, go_sem, ndZ, c0, c1, c2]) rfl ⟨?_, .inl ⟨hlong, rfl⟩⟩
    first
      | exact HS0.out.bl
      | exact (Md.toBelow HS0.out.bl ((((Md.refl (fun b => b = w.heap.size) _).set (.inl rfl) 0 _).set (.inl rfl) 1 _).set (.inl rfl) 2 _) (fun b hb hf => by omega) (Nat.le_refl _))
  · have hli : ¬ (65536 : Int) < (l.length : Int) := by omega
    have hll : l.length ≤ 65536 := by omega
    have KL := (show Hid (∀ W, Calls Tryz.prog 26 #[.string ⟨l.toArray⟩] W fun e w' => e = .returned (.bool (cntP xmlP l).isSome) ∧ Below W.heap.size W w') from fun W => legal_any ⟨l.toArray⟩ W (by rw [mk_size]; exact hs))
    have HD := (show Hid (∀ W, PS w W l → Calls Tryz.prog 27 #[.pointer (some ⟨w.heap.size + 2, 0, none⟩)] W fun e w' => e = .returned (.bool (declL l).isSome) ∧ (∀ r, declL l = some r → Rd w' (w.heap.size + 2) r) ∧ Md (fun b => b = w.heap.size + 2) W w') from fun W h => decl_any _ l W h.rd h.mx hll)
    have HW := (show Hid (∀ W q, Rd W (w.heap.size + 2) q → Calls Tryz.prog 28 #[.pointer (some ⟨w.heap.size + 2, 0, none⟩)] W fun e w' => e = .returned (.bool (decide ((skp q).length < q.length))) ∧ Rd w' (w.heap.size + 2) (skp q) ∧ Md (fun b => b = w.heap.size + 2) W w') from fun W q h => white_any _ q W h)
    have HE := (show Hid (∀ W q, Rd W (w.heap.size + 2) q → Mx W → Er W → q.length ≤ 65536 → Calls Tryz.prog 29 #[.pointer (some ⟨w.heap.size + 2, 0, none⟩), .int .i64 1] W fun e w' => ElR 16 (elemF une 16 q) W (w.heap.size + 2) e w') from fun W q h1 h2 h3 h4 => elem_all 16 (Nat.le_refl _) _ q W h1 h2 h3 h4)
    obtain ⟨X, hX⟩ : ∃ X, X = prsL l := ⟨_, rfl⟩
    have HPR : Hid (∀ e w', (Below w.heap.size w w' ∧ ((65536 < l.length ∧ e = .returned (.tuple #[ndZ, .int .i64 2])) ∨ (l.length ≤ 65536 ∧ X = none ∧ e = .returned (.tuple #[ndZ, .int .i64 130])) ∨ (l.length ≤ 65536 ∧ ∃ t a c, X = some t ∧ e = .returned (.tuple #[ndV t a c, .int .i64 0]) ∧ Kt (fun b => w.heap.size ≤ b) 16 w' a t.ks))) → PaR l w e w') := by
      rintro e w' h
      unfold PaR
      rw [← hX]
      exact h
    refine Calls.mono ?_ HPR.out
    unfold prsL at hX
    clear HPR hm he
    cases hlg : (cntP xmlP l).isSome
    · have HF : Hid (X = none) := by rw [hlg] at hX; exact hX
      rw [hlg] at KL
      clear hlg hX
      go_enter Tryz.func9, Tryz.ntmps9
      go_wp2_with fail
      refine wp_scope_ahead 0 rfl ?_
      go_wp2_with fail
      refine (KL.out _).mono ?_
      rintro e w1 ⟨rfl, hb1⟩
      have S1 : Hid (PS w w1 l) := HS0.out.below hb1
      clear hb1 HS0
      obtain ⟨⟨c0, c1, c2⟩, f0, f1, f2⟩ := Bx.cells S1.out.rs
      go_wp2_with fail
      go_step3
      refine ⟨rfl, ?_⟩
      go_wp2
      rw [Exit.noGoto_ret]
      go_wp2
      exact bodyPost_ret (v := .tuple #[ndZ, .int .i64 130]) (by simp [results, Tryz.results9, go_sem, ndZ, c0, c1, c2]) rfl ⟨(Md.toBelow S1.out.bl ((((Md.refl (fun b => b = w.heap.size) _).set (.inl rfl) 0 _).set (.inl rfl) 1 _).set (.inl rfl) 2 _) (fun b hb hf => by omega) (Nat.le_refl _)), .inr (.inl ⟨by omega, HF.out, rfl⟩)⟩
    · have hX1 : X = docF une l := by rw [hlg] at hX; exact hX
      rw [hlg] at KL
      clear hlg hX
      unfold docF at hX1
      go_enter Tryz.func9, Tryz.ntmps9
      go_wp2_with fail
      refine wp_scope_ahead 0 rfl ?_
      go_wp2_with fail
      refine (KL.out _).mono ?_
      rintro e w1 ⟨rfl, hb1⟩
      have S1 : Hid (PS w w1 l) := HS0.out.below hb1
      clear hb1 HS0 KL
      have K2 := HD.out w1 S1.out
      cases hdd : declL l with
      | none =>
        have HF : Hid (X = none) := by rw [hdd] at hX1; exact hX1
        rw [hdd] at K2
        clear hdd hX1
        go_wp2_with fail
        refine K2.mono ?_
        rintro e w2 ⟨rfl, -, m2⟩
        have S2 : Hid (Bx w2 w.heap.size [] [] (.slice none 0 0) ∧ Below w.heap.size w w2) := ⟨S1.out.rs.keep m2 (by omega), Md.toBelow S1.out.bl m2 (fun b hb hf => by omega) (Nat.le_refl _)⟩
        clear m2 K2 S1
        obtain ⟨⟨c0, c1, c2⟩, f0, f1, f2⟩ := Bx.cells S2.out.1
        go_wp2_with fail
        go_step3
        refine ⟨rfl, ?_⟩
        go_wp2
        rw [Exit.noGoto_ret]
        go_wp2
        exact bodyPost_ret (v := .tuple #[ndZ, .int .i64 130]) (by simp [results, Tryz.results9, go_sem, ndZ, c0, c1, c2]) rfl ⟨(Md.toBelow S2.out.2 ((((Md.refl (fun b => b = w.heap.size) _).set (.inl rfl) 0 _).set (.inl rfl) 1 _).set (.inl rfl) 2 _) (fun b hb hf => by omega) (Nat.le_refl _)), .inr (.inl ⟨by omega, HF.out, rfl⟩)⟩
      | some l1 =>
        have hl1 := decl_len hdd
        have hX2 : X = (elemF une 16 (skp l1)).bind fun p => if skp p.2 = [] then some p.1 else none := by rw [hdd] at hX1; exact hX1
        rw [hdd] at K2
        clear hdd hX1
        go_wp2_with fail
        refine K2.mono ?_
        rintro e w2 ⟨rfl, r2, m2⟩
        have S2 : Hid (PS w w2 l1) := S1.out.step h3 m2 (r2 l1 rfl)
        clear r2 m2 K2 S1
        have K3 := HW.out w2 l1 S2.out.rd
        go_wp2_with fail
        refine K3.mono ?_
        rintro e w3 ⟨rfl, r3, m3⟩
        have S3 : Hid (PS w w3 (skp l1)) := S2.out.step h3 m3 r3
        have hsk := skp_le l1
        clear r3 m3 K3 S2
        have K4 := HE.out w3 (skp l1) S3.out.rd S3.out.mx S3.out.er (by omega)
        go_wp2_with fail
        refine K4.mono ?_
        rintro e w4 (⟨t, r, a, c, ho, rfl, kd4, r4, m4⟩ | ⟨ho, rfl, m4⟩)
        · have S4 : Hid (PS w w4 r) := S3.out.step h3 m4 r4
          have hw3 := blk_lt S3.out.rd
          have KD4 : Hid (Kt (fun b => w.heap.size + 3 ≤ b) 16 w4 a t.ks) := kd4.mono (fun b hb _ => by omega)
          have hX3 : X = if skp r = [] then some t else none := by rw [ho] at hX2; exact hX2
          obtain ⟨⟨b0, b1, b2⟩, g0, g1, g2⟩ := Bx.cells S4.out.bx
          clear ho hX2 r4 m4 kd4 K4 S3
          obtain ⟨w5, hw5⟩ : ∃ w5, w5 = ((w4.setCell ⟨w.heap.size + 1, 0, none⟩ (.string ⟨t.nm.toArray⟩)).setCell ⟨w.heap.size + 1, 1, none⟩ (.string ⟨t.tx.toArray⟩)).setCell ⟨w.heap.size + 1, 2, none⟩ (.slice a t.ks.length c) := ⟨_, rfl⟩
          have m5 : Md (fun b => b = w.heap.size + 1) w4 w5 := by rw [hw5]; exact (((Md.refl (fun b => b = w.heap.size + 1) w4).set (.inl rfl) 0 _).set (.inl rfl) 1 _).set (.inl rfl) 2 _
          have B5 : Bx w5 (w.heap.size + 1) t.nm t.tx (.slice a t.ks.length c) := by rw [hw5]; exact (set_blk (set_blk (set_blk S4.out.bx 0 _) 1 _) 2 _).trans rfl
          have S5 : Hid (Rd w5 (w.heap.size + 2) r ∧ Bx w5 (w.heap.size + 1) t.nm t.tx (.slice a t.ks.length c) ∧ Bx w5 w.heap.size [] [] (.slice none 0 0) ∧ Below w.heap.size w w5 ∧ Kt (fun b => w.heap.size + 3 ≤ b) 16 w5 a t.ks) := ⟨S4.out.rd.keep m5 (by omega), B5, S4.out.rs.keep m5 (by omega), Md.toBelow S4.out.bl m5 (fun b hb hf => by omega) (Nat.le_refl _), KD4.out.md m5 (fun b _ h1 h2 => by omega)⟩
          clear m5 B5 KD4 S4
          unfold ndV
          have K6 := HW.out w5 r S5.out.1
          go_wp2_with fail
          rw [← hw5]
          refine K6.mono ?_
          rintro e w6 ⟨rfl, r6, m6⟩
          have S6 : Hid (Rd w6 (w.heap.size + 2) (skp r) ∧ Bx w6 (w.heap.size + 1) t.nm t.tx (.slice a t.ks.length c) ∧ Bx w6 w.heap.size [] [] (.slice none 0 0) ∧ Below w.heap.size w w6 ∧ Kt (fun b => w.heap.size + 3 ≤ b) 16 w6 a t.ks) := ⟨r6, S5.out.2.1.keep m6 (by omega), S5.out.2.2.1.keep m6 (by omega), Md.toBelow S5.out.2.2.2.1 m6 (fun b hb hf => by omega) (Nat.le_refl _), S5.out.2.2.2.2.md m6 (fun b _ h1 h2 => by omega)⟩
          clear r6 m6 K6 S5 hw5 b0 b1 b2 g0 g1 g2
          have d0 := cell_blk S6.out.1 0
          obtain ⟨q, hq⟩ : ∃ q : ByteArray, q = ⟨(skp r).toArray⟩ := ⟨_, rfl⟩
          simp only [List.getElem?_toArray] at d0
          rw [← hq] at d0
          have hqt : q.toList = skp r := by rw [Lib.toList_data, hq]
          by_cases hsr : skp r = []
          · have hqe : q.toList.isEmpty = true := by rw [hqt, hsr]; rfl
            have HF : Hid (X = some t) := by rw [if_pos hsr] at hX3; exact hX3
            obtain ⟨⟨c0, c1, c2⟩, f0, f1, f2⟩ := Bx.cells S6.out.2.2.1
            obtain ⟨⟨b0, b1, b2⟩, g0, g1, g2⟩ := Bx.cells S6.out.2.1
            clear hqt hsr hX3 hq
            go_wp2_with fail
            rw [Jmp_ret]
            go_wp2
            have mm : Md (fun b => b = w.heap.size) w6 (((w6.setCell ⟨w.heap.size, 0, none⟩ (.string ⟨t.nm.toArray⟩)).setCell ⟨w.heap.size, 1, none⟩ (.string ⟨t.tx.toArray⟩)).setCell ⟨w.heap.size, 2, none⟩ (.slice a t.ks.length c)) := (((Md.refl (fun b => b = w.heap.size) w6).set (.inl rfl) 0 _).set (.inl rfl) 1 _).set (.inl rfl) 2 _
            exact bodyPost_ret (v := .tuple #[ndV t a c, .int .i64 0]) (by simp [results, Tryz.results9, go_sem, ndV, c0, c1, c2]) rfl ⟨Md.toBelow S6.out.2.2.2.1 mm (fun b hb hf => by omega) (Nat.le_refl _), .inr (.inr ⟨hll, t, a, c, HF.out, rfl, (S6.out.2.2.2.2.md mm (fun b _ h1 h2 => by omega)).mono (fun b hb _ => by omega)⟩)⟩
          · have hqe : q.toList.isEmpty = false := by
              rw [hqt]
              cases h : skp r with
              | nil => exact absurd h hsr
              | cons x y => rfl
            have HF : Hid (X = none) := by rw [if_neg hsr] at hX3; exact hX3
            clear hqt hsr hX3 hq
            obtain ⟨⟨c0, c1, c2⟩, f0, f1, f2⟩ := Bx.cells S6.out.2.2.1
            go_wp2_with fail
            go_step3
            refine ⟨rfl, ?_⟩
            go_wp2
            rw [Exit.noGoto_ret]
            go_wp2
            exact bodyPost_ret (v := .tuple #[ndZ, .int .i64 130]) (by simp [results, Tryz.results9, go_sem, ndZ, c0, c1, c2]) rfl ⟨(Md.toBelow S6.out.2.2.2.1 ((((Md.refl (fun b => b = w.heap.size) _).set (.inl rfl) 0 _).set (.inl rfl) 1 _).set (.inl rfl) 2 _) (fun b hb hf => by omega) (Nat.le_refl _)), .inr (.inl ⟨by omega, HF.out, rfl⟩)⟩
        · have HF : Hid (X = none) := by rw [ho] at hX2; exact hX2
          have S4 : Hid (PS w w3 (skp l1) ∧ Md (fun b => b = w.heap.size + 2) w3 w4) := ⟨S3.out, m4⟩
          have b4 := S3.out.bx.keep m4 (by omega)
          obtain ⟨⟨b0, b1, b2⟩, g0, g1, g2⟩ := Bx.cells b4
          obtain ⟨w5, hw5⟩ : ∃ w5, w5 = ((w4.setCell ⟨w.heap.size + 1, 0, none⟩ (.string ⟨#[]⟩)).setCell ⟨w.heap.size + 1, 1, none⟩ (.string ⟨#[]⟩)).setCell ⟨w.heap.size + 1, 2, none⟩ (.slice none 0 0) := ⟨_, rfl⟩
          have m5 : Md (fun b => b = w.heap.size + 1) w4 w5 := by rw [hw5]; exact (((Md.refl (fun b => b = w.heap.size + 1) w4).set (.inl rfl) 0 _).set (.inl rfl) 1 _).set (.inl rfl) 2 _
          have S5 : Hid (Bx w5 w.heap.size [] [] (.slice none 0 0) ∧ Below w.heap.size w w5) := ⟨(S3.out.rs.keep m4 (by omega)).keep m5 (by omega), Md.toBelow (Md.toBelow S3.out.bl m4 (fun b hb hf => by omega) (Nat.le_refl _)) m5 (fun b hb hf => by omega) (Nat.le_refl _)⟩
          obtain ⟨⟨c0, c1, c2⟩, f0, f1, f2⟩ := Bx.cells S5.out.1
          rw [hw5] at c0 c1 c2 f0 f1 f2 S5
          clear ho hX2 m4 K4 S3 b4 m5 hw5 S4
          unfold ndZ
          go_wp2_with fail
          go_step3
          refine ⟨rfl, ?_⟩
          go_wp2
          rw [Exit.noGoto_ret]
          go_wp2
          exact bodyPost_ret (v := .tuple #[ndZ, .int .i64 130]) (by simp [results, Tryz.results9, go_sem, ndZ, c0, c1, c2]) rfl ⟨(Md.toBelow S5.out.2 ((((Md.refl (fun b => b = w.heap.size) _).set (.inl rfl) 0 _).set (.inl rfl) 1 _).set (.inl rfl) 2 _) (fun b hb hf => by omega) (Nat.le_refl _)), .inr (.inl ⟨by omega, HF.out, rfl⟩)⟩
end Go.Proofs.YtohkocknpmnakaaGreatDoor.T
/-
  The law XmlTexts.
-/
namespace Go.Proofs.YtohkocknpmnakaaGreatDoor
open Go.RowKit

theorem Mx.bel {w w' : World} (h : Mx w) (hb : Below w.heap.size w w') : Mx w' := h.md (Md.ofBelow (F := fun _ => False) hb) (fun h => h)
theorem Er.bel {w w' : World} (h : Er w) (hb : Below w.heap.size w w') : Er w' := h.md (Md.ofBelow (F := fun _ => False) hb) (fun h => h)

set_option maxRecDepth 20000 in
set_option maxHeartbeats 3200000 in
theorem xmlTexts_walk (m : List UInt8) (w : World) (hl : m.length ≤ 1048576) (hm : Mx w) (he : Er w) :
    Calls Tryz.prog 5 #[.string ⟨m.toArray⟩] w fun e w' => e = .returned (.bool true) ∧ Below w.heap.size w w' := by
  have K1 := unescape_any m w (by omega) hm he
  have K2 := (show Hid (∀ W, Calls Tryz.prog 21 #[.string ⟨m.toArray⟩] W fun e w' => e = .returned (entV (une m)) ∧ Below W.heap.size W w') from fun W => unesc_ref m W (by omega))
  have K3 := (show Hid (∀ W, Calls Tryz.prog 22 #[.string ⟨m.toArray⟩] W fun e w' => e = .returned (.bool (nameB m)) ∧ Below W.heap.size W w') from fun W => name_code m W (by unfold maxLen; omega))
  have K4 := (show Hid (∀ W, Calls Tryz.prog 23 #[.string ⟨m.toArray⟩] W fun e w' => e = .returned (.bool (nameB m)) ∧ Below W.heap.size W w') from fun W => (name_ref m W (by unfold maxLen; omega)).mono fun e w' h => ⟨h.1, by rw [← h.2]; exact Below.refl _ _⟩)
  have K5 := (show Hid (∀ W, Calls Tryz.prog 24 #[.string ⟨m.toArray⟩] W fun e w' => e = .returned (.string ⟨(escX m).toArray⟩) ∧ Below W.heap.size W w') from fun W => escape_any m W (by omega))
  have K6 := (show Hid (∀ W, Calls Tryz.prog 25 #[.string ⟨m.toArray⟩] W fun e w' => e = .returned (.string ⟨(escX m).toArray⟩) ∧ Below W.heap.size W w') from fun W => (escape_ref m W (by omega)).mono fun e w' h => ⟨h.1, by rw [← h.2]; exact Below.refl _ _⟩)
  have K7 := (show Hid (∀ W, Mx W → Er W → Calls Tryz.prog 13 #[] W fun e w' => e = .returned (.bool true) ∧ Below W.heap.size W w') from fun W a b => awake_any W a b)
  have HU : Hid (∃ x b, entV (une m) = .tuple #[.string x, .bool b] ∧ ∀ e, UsR (une m) e → e = .returned (.tuple #[.string x, .bool b])) := by
    cases h : une m with
    | none =>
      refine ⟨⟨#[]⟩, false, rfl, ?_⟩
      rintro e (⟨t, h, -⟩ | ⟨-, rfl⟩)
      · cases h
      · rfl
    | some t =>
      refine ⟨⟨t.toArray⟩, true, rfl, ?_⟩
      rintro e (⟨t', h, rfl⟩ | ⟨h, -⟩)
      · cases h; rfl
      · cases h
  obtain ⟨x, b, h1, h2⟩ := HU.out
  rw [h1] at K2
  have K1' := (show Hid (Calls Tryz.prog 20 #[.string ⟨m.toArray⟩] w fun e w' => e = .returned (.tuple #[.string x, .bool b]) ∧ Below w.heap.size w w') from K1.mono fun e w' h => ⟨h2 e h.1, h.2⟩)
  have HM : Hid (Mx w ∧ Er w) := ⟨hm, he⟩
  generalize (⟨m.toArray⟩ : ByteArray) = s at *
  generalize (⟨(escX m).toArray⟩ : ByteArray) = y at *
  generalize nameB m = q at *
  clear K1 h1 h2 HU hm he
  go_enter Tryz.func5, Tryz.ntmps5
  go_wp2_with fail
  refine K1'.out.mono ?_
  rintro e w1 ⟨rfl, hb1⟩
  have H1 : Hid (Mx w1 ∧ Er w1 ∧ Below w.heap.size w w1) := ⟨HM.out.1.bel hb1, HM.out.2.bel hb1, hb1⟩
  clear hb1 K1' HM
  go_wp2_with fail
  refine (K2.out _).mono ?_
  rintro e w2 ⟨rfl, hb2⟩
  have H2 : Hid (Mx w2 ∧ Er w2 ∧ Below w.heap.size w w2) := ⟨H1.out.1.bel hb2, H1.out.2.1.bel hb2, H1.out.2.2.trans (hb2.mono H1.out.2.2.size)⟩
  clear hb2 H1 K2
  go_wp2_with fail
  refine (K3.out _).mono ?_
  rintro e w3 ⟨rfl, hb3⟩
  have H3 : Hid (Mx w3 ∧ Er w3 ∧ Below w.heap.size w w3) := ⟨H2.out.1.bel hb3, H2.out.2.1.bel hb3, H2.out.2.2.trans (hb3.mono H2.out.2.2.size)⟩
  clear hb3 H2 K3
  go_wp2_with fail
  refine (K4.out _).mono ?_
  rintro e w4 ⟨rfl, hb4⟩
  have H4 : Hid (Mx w4 ∧ Er w4 ∧ Below w.heap.size w w4) := ⟨H3.out.1.bel hb4, H3.out.2.1.bel hb4, H3.out.2.2.trans (hb4.mono H3.out.2.2.size)⟩
  clear hb4 H3 K4
  go_wp2_with fail
  refine (K5.out _).mono ?_
  rintro e w5 ⟨rfl, hb5⟩
  have H5 : Hid (Mx w5 ∧ Er w5 ∧ Below w.heap.size w w5) := ⟨H4.out.1.bel hb5, H4.out.2.1.bel hb5, H4.out.2.2.trans (hb5.mono H4.out.2.2.size)⟩
  clear hb5 H4 K5
  go_wp2_with fail
  refine (K6.out _).mono ?_
  rintro e w6 ⟨rfl, hb6⟩
  have H6 : Hid (Mx w6 ∧ Er w6 ∧ Below w.heap.size w w6) := ⟨H5.out.1.bel hb6, H5.out.2.1.bel hb6, H5.out.2.2.trans (hb6.mono H5.out.2.2.size)⟩
  clear hb6 H5 K6
  go_wp2_with fail
  refine (K7.out _ H6.out.1 H6.out.2.1).mono ?_
  rintro e w7 ⟨rfl, hb7⟩
  go_wp2
  go_ret
  exact ⟨rfl, H6.out.2.2.trans (hb7.mono H6.out.2.2.size)⟩
end Go.Proofs.YtohkocknpmnakaaGreatDoor
/-
  The law XmlParses.
-/
namespace Go.Proofs.YtohkocknpmnakaaGreatDoor
open Go.RowKit

theorem kids_sml {k : Nat} (he : ∀ l t r, elemF une k l = some (t, r) → l.length ≤ 65536 → Sml k t.ks) : ∀ (f : Nat) (l : List UInt8) (ks : List Nod) (r : List UInt8), kidsF (elemF une k) f l = some (ks, r) → l.length ≤ 65536 → ∀ t ∈ ks, Sml k t.ks
  | 0, _, _, _, h, _ => by cases h
  | f + 1, l, ks, r, h, hl => by
    simp only [kidsF] at h
    have hs := skp_le l
    split at h
    · simp only [Option.some.injEq, Prod.mk.injEq] at h
      obtain ⟨rfl, -⟩ := h
      intro t ht
      cases ht
    · simp only [Option.bind_eq_some_iff, Option.map_eq_some_iff, Prod.mk.injEq] at h
      obtain ⟨⟨t1, r1⟩, h1, ⟨ks2, r2⟩, h2, rfl, -⟩ := h
      have hr := elem_len une k _ _ _ h1
      intro t ht
      rcases List.mem_cons.1 ht with rfl | ht
      · exact he _ _ _ h1 (by omega)
      · exact kids_sml he f r1 ks2 r2 h2 (by omega) t ht
theorem elem_sml : ∀ (k : Nat) (l : List UInt8) (t : Nod) (r : List UInt8), elemF une k l = some (t, r) → l.length ≤ 65536 → Sml k t.ks
  | 0, _, _, _, h, _ => by cases h
  | k + 1, l, t, r, h, hl => by
    simp only [elemF, Option.bind_eq_some_iff] at h
    obtain ⟨l1, h1, h2⟩ := h
    have e1 := (eat_len h1).1
    split at h2
    · cases h2
    · simp only [Option.bind_eq_some_iff] at h2
      obtain ⟨q, h3, h4⟩ := h2
      have e3 := ats_len h3
      simp only [List.length_drop, List.length_cons, List.length_nil] at e1 e3
      rw [rest_eq] at h4
      split at h4
      · simp only [Option.some.injEq, Prod.mk.injEq] at h4
        obtain ⟨rfl, -⟩ := h4
        exact ⟨Nat.zero_le _, fun t ht => by cases ht⟩
      · simp only [Option.bind_eq_some_iff] at h4
        obtain ⟨r1, h5, h6⟩ := h4
        have e5 := (eat_len h5).1
        unfold conN at h6
        simp only [Option.bind_eq_some_iff, Option.map_eq_some_iff, Prod.mk.injEq] at h6
        obtain ⟨⟨x, ks, r2⟩, h7, r3, -, rfl, -⟩ := h6
        simp only [List.length_cons, List.length_nil] at e5
        have hr1 : r1.length ≤ 65536 := by omega
        show ks.length ≤ 65536 ∧ ∀ t ∈ ks, Sml k t.ks
        unfold contF at h7
        split at h7
        · cases h7
        · split at h7
          · simp only [Option.map_eq_some_iff, Prod.mk.injEq] at h7
            obtain ⟨_, _, _, rfl, _⟩ := h7
            exact ⟨Nat.zero_le _, fun t ht => by cases ht⟩
          · simp only [Option.map_eq_some_iff, Prod.mk.injEq] at h7
            obtain ⟨⟨ks', r'⟩, h8, -, rfl, -⟩ := h7
            have hkl : ks'.length + r'.length ≤ r1.length := (kids_len (elem_len une k) h8).2
            exact ⟨Nat.le_trans (Nat.le_trans (Nat.le_add_right _ _) hkl) hr1, kids_sml (elem_sml k) _ _ _ _ h8 hr1⟩
/-- What is told of a text. -/
def resL (l : List UInt8) : Nod × Int := if 65536 < l.length then (.nd [] [] [], 2) else match prsL l with | none => (.nd [] [] [], 130) | some t => (t, 0)
theorem res_sml (l : List UInt8) : Sml 16 (resL l).1.ks := by
  unfold resL
  split
  · exact ⟨Nat.zero_le _, fun t ht => by cases ht⟩
  · split
    · exact ⟨Nat.zero_le _, fun t ht => by cases ht⟩
    · next t h =>
      unfold prsL at h
      split at h
      · unfold docF at h
        simp only [Option.bind_eq_some_iff] at h
        obtain ⟨l1, h1, ⟨t', r'⟩, h2, h3⟩ := h
        have hd := decl_len h1
        have hs := skp_le l1
        split at h3
        · cases h3
          exact elem_sml 16 _ _ _ h2 (by omega)
        · cases h3
      · cases h
theorem pa_res {l : List UInt8} {W w' : World} {e : Ending} (h : PaR l W e w') : ∃ a c, e = .returned (.tuple #[ndV (resL l).1 a c, .int .i64 (resL l).2]) ∧ Kd (fun b => W.heap.size ≤ b) 16 w' a (resL l).1.ks ∧ Below W.heap.size W w' := by
  obtain ⟨hb, ⟨hl, rfl⟩ | ⟨hl, hp, rfl⟩ | ⟨hl, t, a, c, hp, rfl, hk⟩⟩ := h
  · have e : resL l = (.nd [] [] [], 2) := if_pos hl
    rw [e]
    exact ⟨none, 0, rfl, Kd.nil _ _ _ _, hb⟩
  · have e : resL l = (.nd [] [] [], 130) := by unfold resL; rw [if_neg (by omega), hp]
    rw [e]
    exact ⟨none, 0, rfl, Kd.nil _ _ _ _, hb⟩
  · have e : resL l = (t, 0) := by unfold resL; rw [if_neg (by omega), hp]
    rw [e]
    exact ⟨a, c, rfl, hk, hb⟩

set_option maxRecDepth 20000 in
set_option maxHeartbeats 3200000 in
theorem xmlParses_walk (l : List UInt8) (w : World) (hs : l.length ≤ maxLen) (hm : Mx w) (he : Er w) :
    Calls Tryz.prog 3 #[.string ⟨l.toArray⟩] w fun e w' => e = .returned (.bool true) ∧ Below w.heap.size w w' := by
  have K1 := (show Hid (Calls Tryz.prog 9 #[.string ⟨l.toArray⟩] w fun e w' => ∃ a c, e = .returned (.tuple #[ndV (resL l).1 a c, .int .i64 (resL l).2]) ∧ Kd (fun b => w.heap.size ≤ b) 16 w' a (resL l).1.ks ∧ Below w.heap.size w w') from (parse_any l w hs hm he).mono fun _ _ h => pa_res h)
  have K2 := (show Hid (∀ W, Calls Tryz.prog 10 #[.string ⟨l.toArray⟩] W fun e w' => ∃ a c, e = .returned (.tuple #[ndV (resL l).1 a c, .int .i64 (resL l).2]) ∧ Kd (fun b => W.heap.size ≤ b) 16 w' a (resL l).1.ks ∧ Below W.heap.size W w') from fun W => (parse_ref l W hs).mono fun _ _ h => pa_res h)
  have hsm := res_sml l
  have K3 := (show Hid (∀ a c W, Inm 16 W a (resL l).1.ks → Calls Tryz.prog 12 #[ndV (resL l).1 a c] W fun e w' => ∃ a' c', e = .returned (ndV (resL l).1 a' c') ∧ Kd (fun b => W.heap.size ≤ b) 16 w' a' (resL l).1.ks ∧ Below W.heap.size W w') from fun a c W h => toq_all 16 (resL l).1 a c W h hsm)
  have K4 := (show Hid (∀ a b c d W, Inm 16 W a (resL l).1.ks → Inm 16 W b (resL l).1.ks → Calls Tryz.prog 11 #[ndV (resL l).1 a c, ndV (resL l).1 b d] W fun e w' => e = .returned (.bool true) ∧ Below W.heap.size W w') from fun a b c d W h1 h2 => smq_all 16 (resL l).1 a b c d W h1 h2 hsm)
  have K5 := (show Hid (∀ W, Below w.heap.size w W → Calls Tryz.prog 13 #[] W fun e w' => e = .returned (.bool true) ∧ Below W.heap.size W w') from fun W hb => awake_any W (hm.md (Md.ofBelow (F := fun _ => False) hb) (fun h => h)) (he.md (Md.ofBelow (F := fun _ => False) hb) (fun h => h)))
  clear hsm hm he hs
  generalize resL l = tv at *
  obtain ⟨t, v⟩ := tv
  generalize (⟨l.toArray⟩ : ByteArray) = s at *
  unfold ndV at K1 K2 K3 K4
  dsimp only at K1 K2 K3 K4
  go_enter Tryz.func3, Tryz.ntmps3
  go_wp2_with fail
  refine K1.out.mono ?_
  rintro e w1 ⟨a, c, rfl, hk1, hb1⟩
  obtain ⟨w2, hw2⟩ : ∃ w2, w2 = w1.alloc (.cells #[.string ⟨t.nm.toArray⟩, .string ⟨t.tx.toArray⟩, .slice a t.ks.length c] 24) := ⟨_, rfl⟩
  obtain ⟨p, hp⟩ : ∃ p, p = w1.heap.size := ⟨_, rfl⟩
  have H2 : Hid (Below w.heap.size w w2 ∧ Inm 16 w2 a t.ks ∧ w2.heap[p]? = some (.cells #[.string ⟨t.nm.toArray⟩, .string ⟨t.tx.toArray⟩, .slice a t.ks.length c] 24 (0, 0))) := by
    rw [hw2, hp]
    have hb : Below w1.heap.size w1 (w1.alloc (.cells #[.string ⟨t.nm.toArray⟩, .string ⟨t.tx.toArray⟩, .slice a t.ks.length c] 24)) := (Below.refl _ _).alloc (Nat.le_refl _) _
    exact ⟨hb1.trans (hb.mono hb1.size), Inm.below (hk1.mono (fun _ _ _ => trivial)) hb, heap_alloc_new _ _⟩
  clear hk1 hb1 K1
  go_wp2_with fail
  rw [← hw2, ← hp]
  clear hw2 hp
  refine (K2.out _).mono ?_
  rintro e w3 ⟨a', c', rfl, hk3, hb3⟩
  obtain ⟨w4, hw4⟩ : ∃ w4, w4 = w3.alloc (.cells #[.string ⟨t.nm.toArray⟩, .string ⟨t.tx.toArray⟩, .slice a' t.ks.length c'] 30) := ⟨_, rfl⟩
  obtain ⟨q, hq⟩ : ∃ q, q = w3.heap.size := ⟨_, rfl⟩
  have H4 : Hid (Below w.heap.size w w4 ∧ Inm 16 w4 a t.ks ∧ Inm 16 w4 a' t.ks ∧ w4.heap[p]? = some (.cells #[.string ⟨t.nm.toArray⟩, .string ⟨t.tx.toArray⟩, .slice a t.ks.length c] 24 (0, 0)) ∧ w4.heap[q]? = some (.cells #[.string ⟨t.nm.toArray⟩, .string ⟨t.tx.toArray⟩, .slice a' t.ks.length c'] 30 (0, 0))) := by
    rw [hw4, hq]
    have hb : Below w3.heap.size w3 (w3.alloc (.cells #[.string ⟨t.nm.toArray⟩, .string ⟨t.tx.toArray⟩, .slice a' t.ks.length c'] 30)) := (Below.refl _ _).alloc (Nat.le_refl _) _
    have hb24 := hb3.trans (hb.mono hb3.size)
    exact ⟨H2.out.1.trans (hb24.mono H2.out.1.size), H2.out.2.1.below hb24, Inm.below (hk3.mono (fun _ _ _ => trivial)) hb, (hb24.block _ (blk_lt H2.out.2.2)).trans H2.out.2.2, heap_alloc_new _ _⟩
  have HC := (show Hid (∀ w', Below w4.heap.size w4 w' → (w'.cell? ⟨p, 0, none⟩ = some (.string ⟨t.nm.toArray⟩) ∧ w'.cell? ⟨p, 1, none⟩ = some (.string ⟨t.tx.toArray⟩) ∧ w'.cell? ⟨p, 2, none⟩ = some (.slice a t.ks.length c) ∧ w'.cell? ⟨q, 0, none⟩ = some (.string ⟨t.nm.toArray⟩) ∧ w'.cell? ⟨q, 1, none⟩ = some (.string ⟨t.tx.toArray⟩) ∧ w'.cell? ⟨q, 2, none⟩ = some (.slice a' t.ks.length c'))) from fun w' hb => by
    have h1 := (hb.block _ (blk_lt H4.out.2.2.2.1)).trans H4.out.2.2.2.1
    have h2 := (hb.block _ (blk_lt H4.out.2.2.2.2)).trans H4.out.2.2.2.2
    exact ⟨cell_blk h1 0, cell_blk h1 1, cell_blk h1 2, cell_blk h2 0, cell_blk h2 1, cell_blk h2 2⟩)
  have hbd : Below w4.heap.size w4 w4.drew := (Below.refl _ _).drew
  obtain ⟨x0, x1, x2, y0, y1, y2⟩ := HC.out w4 (Below.refl _ _)
  have hIa := H4.out.2.1.below hbd
  clear hk3 hb3 K2
  go_wp2_with fail
  rw [← hw4, ← hq]
  clear hw4 hq
  generalize hN : (⟨t.nm.toArray⟩ : ByteArray) = nm at *
  generalize hX : (⟨t.tx.toArray⟩ : ByteArray) = tx at *
  go_region_held3 (fun w' => w'.cell? ⟨p, 0, none⟩ = some (.string nm) ∧ w'.cell? ⟨p, 1, none⟩ = some (.string tx) ∧ w'.cell? ⟨p, 2, none⟩ = some (.slice a t.ks.length c) ∧ w'.cell? ⟨q, 0, none⟩ = some (.string nm) ∧ w'.cell? ⟨q, 1, none⟩ = some (.string tx) ∧ w'.cell? ⟨q, 2, none⟩ = some (.slice a' t.ks.length c')) (first | (exact HC.out _ hb7) | (exact HC.out _ hb6) | (exact HC.out _ hb5) | (go_keep))
    (first
      | (go_at_call 12; (with_reducible refine Calls.mono (K3.out a c _ ?_) ?_); exact hIa; rintro e w5 ⟨a2, c2, rfl, hk5, hb5'⟩; have hb5 : Below w4.heap.size w4 w5 := hbd.trans hb5'; have hIb := H4.out.2.2.1.below hb5; have hIc : Inm 16 w5 a2 t.ks := hk5.mono (fun _ _ _ => trivial))
      | (go_at_call 11; (with_reducible refine Calls.mono (K4.out a2 a' c2 c' _ hIc hIb) ?_); rintro e w6 ⟨rfl, hb6'⟩; have hb6 : Below w4.heap.size w4 w6 := hb5.trans (hb6'.mono hb5.size); have hlo6 : Below w.heap.size w w6 := H4.out.1.trans (hb6.mono H4.out.1.size))
      | (go_at_call 13; (with_reducible refine Calls.mono (K5.out _ hlo6) ?_); rintro e w7 ⟨rfl, hb7'⟩; have hb7 : Below w4.heap.size w4 w7 := hb6.trans (hb7'.mono hb6.size)))
  have H7 : Hid (Below w.heap.size w w7) := H4.out.1.trans (hb7.mono H4.out.1.size)
  go_wp2
  go_ret
  exact ⟨rfl, H7.out⟩
end Go.Proofs.YtohkocknpmnakaaGreatDoor
/-
  The law XmlLent.
-/
namespace Go.Proofs.YtohkocknpmnakaaGreatDoor
open Go.RowKit

theorem doc_len (t : Nod) : (docL true t).length ≤ (elL [] t).length + 100 := by
  unfold docL
  rw [elL_eq, elL_eq]
  have h1 : (attL true).length = 48 := rfl
  have h2 : headL.length = 39 := rfl
  simp only [List.length_append, List.flatten_cons, List.flatten_nil, List.length_cons, List.length_nil]
  omega
theorem dep_bound (ks : List Nod) : depF 40 ks ≤ 41 := dep_le 40 ks

/-- What the law holds before its loop: the boxes, the trees. -/
structure LB (N : Nat) (t R : Nod) (w wx : World) (p r q1 q2 ga : Nat) (a aw ab : Option Addr) (c cw n1 cb : Nat) (aa : Option Addr) (ca : Nat) : Prop where
  lo : Below w.heap.size w wx
  bp : wx.heap[p]? = some (.cells #[.string ⟨t.nm.toArray⟩, .string ⟨t.tx.toArray⟩, .slice a t.ks.length c] 24 (0, 0))
  br : wx.heap[r]? = some (.cells #[.string ⟨t.nm.toArray⟩, .string ⟨t.tx.toArray⟩, .slice aw t.ks.length cw] 30 (0, 0))
  b1 : wx.heap[q1]? = some (.cells #[.string ⟨R.nm.toArray⟩, .string ⟨R.tx.toArray⟩, .slice aa n1 ca] 24 (0, 0))
  b2 : wx.heap[q2]? = some (.cells #[.string ⟨R.nm.toArray⟩, .string ⟨R.tx.toArray⟩, .slice ab R.ks.length cb] 24 (0, 0))
  kt : Kd (fun b => b ≠ ga) N wx a t.ks
  kw : Kd (fun b => b ≠ ga) N wx aw t.ks
  kb : Kd (fun b => b ≠ ga) 16 wx ab R.ks
  ka : n1 = 0 ∨ ∃ off cs tt, aa = some ⟨ga, off, none⟩ ∧ wx.heap[ga]? = some (.cells cs tt (0, 0)) ∧ off + n1 * 3 ≤ cs.size
  ne : ga ≠ p ∧ ga ≠ r ∧ ga ≠ q1 ∧ ga ≠ q2 ∧ w.heap.size ≤ ga
theorem LB.below {N : Nat} {t R : Nod} {w wx wy : World} {p r q1 q2 ga : Nat} {a aw ab : Option Addr} {c cw n1 cb : Nat} {aa : Option Addr} {ca : Nat} (h : LB N t R w wx p r q1 q2 ga a aw ab c cw n1 cb aa ca) (hb : Below wx.heap.size wx wy) : LB N t R w wy p r q1 q2 ga a aw ab c cw n1 cb aa ca := by
  refine ⟨h.lo.trans (hb.mono h.lo.size), (hb.block _ (blk_lt h.bp)).trans h.bp, (hb.block _ (blk_lt h.br)).trans h.br, (hb.block _ (blk_lt h.b1)).trans h.b1, (hb.block _ (blk_lt h.b2)).trans h.b2, Kd.keep hb.size (fun b _ hlt => hb.block b hlt) h.kt, Kd.keep hb.size (fun b _ hlt => hb.block b hlt) h.kw, Kd.keep hb.size (fun b _ hlt => hb.block b hlt) h.kb, ?_, h.ne⟩
  rcases h.ka with h0 | ⟨off, cs, tt, h1, h2, h3⟩
  · exact .inl h0
  · exact .inr ⟨off, cs, tt, h1, (hb.block _ (blk_lt h2)).trans h2, h3⟩
/-- A store into the first document's row. -/
theorem LB.store {N : Nat} {t R : Nod} {w wx : World} {p r q1 q2 ga : Nat} {a aw ab : Option Addr} {c cw n1 cb : Nat} {aa : Option Addr} {ca : Nat} (h : LB N t R w wx p r q1 q2 ga a aw ab c cw n1 cb aa ca) (o : Nat) (v : Value) : LB N t R w (wx.setCell ⟨ga, o, none⟩ v) p r q1 q2 ga a aw ab c cw n1 cb aa ca := by
  have hm : Md (fun b => b = ga) wx (wx.setCell ⟨ga, o, none⟩ v) := (Md.refl (fun b => b = ga) _).set (.inl rfl) _ _
  obtain ⟨n1', n2, n3, n4, n5⟩ := h.ne
  refine ⟨Md.toBelow h.lo hm (fun b hb e => by omega) (Nat.le_refl _), keep_blk h.bp hm (Ne.symm n1'), keep_blk h.br hm (Ne.symm n2), keep_blk h.b1 hm (Ne.symm n3), keep_blk h.b2 hm (Ne.symm n4), h.kt.md hm (fun b _ hg e => hg e), h.kw.md hm (fun b _ hg e => hg e), h.kb.md hm (fun b _ hg e => hg e), ?_, h.ne⟩
  rcases h.ka with h0 | ⟨off, cs, tt, h1, h2, h3⟩
  · exact .inl h0
  · exact .inr ⟨off, _, tt, h1, set_blk h2 o v, by simpa using h3⟩
theorem pa_resT {l : List UInt8} {W w' : World} {e : Ending} (h : T.PaR l W e w') : ∃ a c, e = .returned (.tuple #[ndV (resL l).1 a c, .int .i64 (resL l).2]) ∧ T.Kt (fun b => W.heap.size ≤ b) 16 w' a (resL l).1.ks ∧ Below W.heap.size W w' := by
  obtain ⟨hb, ⟨hl, rfl⟩ | ⟨hl, hp, rfl⟩ | ⟨hl, t, a, c, hp, rfl, hk⟩⟩ := h
  · have e : resL l = (.nd [] [] [], 2) := if_pos hl
    rw [e]
    exact ⟨none, 0, rfl, T.Kt.nil _ _ _ _, hb⟩
  · have e : resL l = (.nd [] [] [], 130) := by unfold resL; rw [if_neg (by omega), hp]
    rw [e]
    exact ⟨none, 0, rfl, T.Kt.nil _ _ _ _, hb⟩
  · have e : resL l = (t, 0) := by unfold resL; rw [if_neg (by omega), hp]
    rw [e]
    exact ⟨a, c, rfl, hk, hb⟩
/-- Ahead of the loop. -/
theorem LB.start {N : Nat} {t R : Nod} {w w1 w2 w3 w4 w5 w6 w7 w8 : World} {a aw aa ab : Option Addr} {c cw ca cb : Nat}
    (hkz : Kz N w a t.ks) (hp1 : w1.heap[w.heap.size]? = some (.cells #[.string ⟨t.nm.toArray⟩, .string ⟨t.tx.toArray⟩, .slice a t.ks.length c] 24 (0, 0))) (h01 : Below w.heap.size w w1)
    (hkw : Kd (fun b => w1.heap.size ≤ b) N w2 aw t.ks) (h12 : Below w1.heap.size w1 w2) (h3 : w3 = w2.alloc (.cells #[.string ⟨t.nm.toArray⟩, .string ⟨t.tx.toArray⟩, .slice aw t.ks.length cw] 30)) (h34 : Below w3.heap.size w3 w4)
    (hka : T.Kt (fun b => w4.heap.size ≤ b) 16 w5 aa R.ks) (h45 : Below w4.heap.size w4 w5) (h6 : w6 = w5.alloc (.cells #[.string ⟨R.nm.toArray⟩, .string ⟨R.tx.toArray⟩, .slice aa R.ks.length ca] 24))
    (hkb : Kd (fun b => w6.heap.size ≤ b) 16 w7 ab R.ks) (h67 : Below w6.heap.size w6 w7) (h8 : w8 = w7.alloc (.cells #[.string ⟨R.nm.toArray⟩, .string ⟨R.tx.toArray⟩, .slice ab R.ks.length cb] 24)) :
    ∃ ga, LB N t R w w8 w.heap.size w2.heap.size w5.heap.size w7.heap.size ga a aw ab c cw R.ks.length cb aa ca := by
  have b23 : Below w2.heap.size w2 w3 := by rw [h3]; exact (Below.refl _ _).alloc (Nat.le_refl _) _
  have b56 : Below w5.heap.size w5 w6 := by rw [h6]; exact (Below.refl _ _).alloc (Nat.le_refl _) _
  have b78 : Below w7.heap.size w7 w8 := by rw [h8]; exact (Below.refl _ _).alloc (Nat.le_refl _) _
  have z3 : w3.heap.size = w2.heap.size + 1 := by rw [h3]; show (w2.heap.push _).size = _; simp
  have z6 : w6.heap.size = w5.heap.size + 1 := by rw [h6]; show (w5.heap.push _).size = _; simp
  have z8 : w8.heap.size = w7.heap.size + 1 := by rw [h8]; show (w7.heap.push _).size = _; simp
  have s12 := h12.size
  have s34 := h34.size
  have s45 := h45.size
  have s67 := h67.size
  have s01 := h01.size
  have hpl := blk_lt hp1
  have b38 : Below w3.heap.size w3 w8 := h34.trans ((h45.trans ((b56.trans ((h67.trans (b78.mono s67)).mono (by omega))).mono s45)).mono s34)
  have b58 : Below w5.heap.size w5 w8 := b56.trans ((h67.trans (b78.mono s67)).mono (by omega))
  have b28 : Below w2.heap.size w2 w8 := b23.trans (b38.mono (by omega))
  have b18 : Below w1.heap.size w1 w8 := h12.trans (b28.mono s12)
  have b08 : Below w.heap.size w w8 := h01.trans (b18.mono s01)
  have hr3 : w3.heap[w2.heap.size]? = some (.cells #[.string ⟨t.nm.toArray⟩, .string ⟨t.tx.toArray⟩, .slice aw t.ks.length cw] 30 (0, 0)) := by rw [h3]; exact heap_alloc_new _ _
  have hq6 : w6.heap[w5.heap.size]? = some (.cells #[.string ⟨R.nm.toArray⟩, .string ⟨R.tx.toArray⟩, .slice aa R.ks.length ca] 24 (0, 0)) := by rw [h6]; exact heap_alloc_new _ _
  have hq8 : w8.heap[w7.heap.size]? = some (.cells #[.string ⟨R.nm.toArray⟩, .string ⟨R.tx.toArray⟩, .slice ab R.ks.length cb] 24 (0, 0)) := by rw [h8]; exact heap_alloc_new _ _
  have b68 : Below w6.heap.size w6 w8 := h67.trans (b78.mono s67)
  obtain ⟨ga, hga, hka'⟩ : ∃ ga, ((w4.heap.size ≤ ga ∧ ga < w5.heap.size) ∨ ga = w8.heap.size) ∧ (R.ks.length = 0 ∨ ∃ off cs tt, aa = some ⟨ga, off, none⟩ ∧ w8.heap[ga]? = some (.cells cs tt (0, 0)) ∧ off + R.ks.length * 3 ≤ cs.size) := by
    rcases hka.2 with h0 | ⟨b, off, rfl, g1, g2, cs, tt, g3⟩
    · exact ⟨w8.heap.size, .inr rfl, .inl (by rw [h0]; rfl)⟩
    · refine ⟨b, .inl ⟨g1, g2⟩, ?_⟩
      by_cases hz : R.ks.length = 0
      · exact .inl hz
      · refine .inr ⟨off, cs, tt, rfl, (b58.block b g2).trans g3, ?_⟩
        have hk := hka.1
        rcases hk with hk | ⟨b', off', e, -, -, hc⟩
        · rw [hk] at hz; exact absurd rfl hz
        · simp only [Option.some.injEq, Addr.mk.injEq, and_true] at e
          obtain ⟨rfl, rfl⟩ := e
          obtain ⟨_, _, -, -, q, -⟩ := hc (R.ks.length - 1) (by omega)
          rw [cell_blk g3] at q
          have := (Array.getElem?_eq_some_iff.1 q).1
          omega
  refine ⟨ga, b08, (b18.block _ hpl).trans hp1, (b38.block _ (blk_lt hr3)).trans hr3, (b68.block _ (blk_lt hq6)).trans hq6, hq8, ?_, ?_, ?_, hka', ?_⟩
  · exact (Kd.keep b08.size (fun b hg _ => b08.block b hg) hkz.kd).mono (fun b hg _ => by omega)
  · have h1 : Kd (fun b => b < w2.heap.size) N w2 aw t.ks := hkw.mono (fun b _ hlt => hlt)
    exact (Kd.keep b28.size (fun b hg _ => b28.block b hg) h1).mono (fun b hg _ => by omega)
  · have h1 : Kd (fun b => w6.heap.size ≤ b ∧ b < w7.heap.size) 16 w7 ab R.ks := hkb.mono (fun b hg hlt => ⟨hg, hlt⟩)
    exact (Kd.keep b78.size (fun b hg _ => b78.block b hg.2) h1).mono (fun b hg _ => by omega)
  · rcases hga with ⟨g1, g2⟩ | g1
    · exact ⟨by omega, by omega, by omega, by omega, by omega⟩
    · exact ⟨by omega, by omega, by omega, by omega, by omega⟩
end Go.Proofs.YtohkocknpmnakaaGreatDoor
/-
  The law XmlLent: the walk.
-/
namespace Go.Proofs.YtohkocknpmnakaaGreatDoor
open Go.RowKit

set_option maxRecDepth 20000 in
set_option maxHeartbeats 3200000 in
theorem lent_walk (N : Nat) (hN : 40 ≤ N) (t : Nod) (a : Option Addr) (c : Nat) (l : List UInt8) (w : World) (hk : Kz N w a t.ks) (hsz : (elL [] t).length ≤ 7000000) (hl : l.length ≤ maxLen) (hm : Mx w) (he : Er w) :
    Calls Tryz.prog 7 #[ndV t a c, .string ⟨l.toArray⟩] w fun e w' => e = .returned (.bool true) ∧ Below w.heap.size w w' := by
  have hels : (elsL t.ks).length ≤ 10000000 := by have := (el_parts [] t).2.2.2; omega
  have hkd : Inm N w a t.ks := hk.kd.mono (fun _ _ _ => trivial)
  have hsb := smlB_of N t.ks hels
  have KA := (show Hid (∀ W, Below w.heap.size w W → Calls Tryz.prog 13 #[] W fun e w' => e = .returned (.bool true) ∧ Below W.heap.size W w') from fun W h => awake_any W (hm.bel h) (he.bel h))
  have KD := (show Hid (∀ W, Below w.heap.size w W → Calls Tryz.prog 14 #[ndV t a c, .int .i64 40] W fun e w' => e = .returned (.int .i64 (depF 40 t.ks : Int)) ∧ Below W.heap.size W w') from fun W h => deep_all 40 (by omega) t a c W (Inm.inp hN (hkd.below h)) (lng_of 40 t.ks hels))
  have KT := (show Hid (∀ W, Inm N W a t.ks → Calls Tryz.prog 12 #[ndV t a c] W fun e w' => ∃ a' c', e = .returned (ndV t a' c') ∧ Kd (fun b => W.heap.size ≤ b) N w' a' t.ks ∧ Below W.heap.size W w') from fun W h => toq_allB N t a c W h hsb)
  have KS := (show Hid (∀ a b c d W, Inm N W a t.ks → Inm N W b t.ks → Calls Tryz.prog 11 #[ndV t a c, ndV t b d] W fun e w' => e = .returned (.bool true) ∧ Below W.heap.size W w') from fun a b c d W h1 h2 => smq_allB N t a b c d W h1 h2 hsb)
  have KP := (show Hid (∀ W, Below w.heap.size w W → Calls Tryz.prog 15 #[ndV t a c, .bool true] W fun e w' => (∃ (x : ByteArray) (y : Int), e = .returned (.tuple #[.string x, .int .i64 y])) ∧ Below W.heap.size W w') from fun W h => print_tot N true t a c W (Kz.below h hk) (by have := doc_len t; omega))
  have K9 := (show Hid (∀ W, Below w.heap.size w W → Calls Tryz.prog 9 #[.string ⟨l.toArray⟩] W fun e w' => ∃ a c, e = .returned (.tuple #[ndV (resL l).1 a c, .int .i64 (resL l).2]) ∧ T.Kt (fun b => W.heap.size ≤ b) 16 w' a (resL l).1.ks ∧ Below W.heap.size W w') from fun W h => (T.parse_any l W hl (hm.bel h) (he.bel h)).mono fun _ _ h => pa_resT h)
  have K10 := (show Hid (∀ W, Calls Tryz.prog 10 #[.string ⟨l.toArray⟩] W fun e w' => ∃ a c, e = .returned (.tuple #[ndV (resL l).1 a c, .int .i64 (resL l).2]) ∧ Kd (fun b => W.heap.size ≤ b) 16 w' a (resL l).1.ks ∧ Below W.heap.size W w') from fun W => (parse_ref l W hl).mono fun _ _ h => pa_res h)
  have hsm := res_sml l
  have hrk : (resL l).1.ks.length ≤ 65536 := hsm.1
  have KTR := (show Hid (∀ a c W, Inm 16 W a (resL l).1.ks → Calls Tryz.prog 12 #[ndV (resL l).1 a c] W fun e w' => ∃ a' c', e = .returned (ndV (resL l).1 a' c') ∧ Kd (fun b => W.heap.size ≤ b) 16 w' a' (resL l).1.ks ∧ Below W.heap.size W w') from fun a c W h => toq_all 16 (resL l).1 a c W h hsm)
  have KSR := (show Hid (∀ a b c d W, Inm 16 W a (resL l).1.ks → Inm 16 W b (resL l).1.ks → Calls Tryz.prog 11 #[ndV (resL l).1 a c, ndV (resL l).1 b d] W fun e w' => e = .returned (.bool true) ∧ Below W.heap.size W w') from fun a b c d W h1 h2 => smq_all 16 (resL l).1 a b c d W h1 h2 hsm)
  have KO := (show Hid (∀ W, Calls Tryz.prog 19 #[.string ⟨#[122, 122]⟩, .string ⟨#[122, 122]⟩] W fun e w' => e = .returned (.agg #[.string ⟨#[122, 122]⟩, .string ⟨#[122, 122]⟩, .slice none 0 0]) ∧ Below W.heap.size W w') from fun W => of_any _ _ W)
  have hdb := dep_bound t.ks
  have HKZ : Hid (Kz N w a t.ks ∧ Inm N w a t.ks) := ⟨hk, hkd⟩
  generalize (⟨l.toArray⟩ : ByteArray) = S at *
  generalize (resL l).2 = Z at *
  generalize (resL l).1 = R at *
  generalize depF 40 t.ks = DD at *
  obtain ⟨w0, hw0⟩ : ∃ w0, w0 = w.alloc (.cells #[.string ⟨t.nm.toArray⟩, .string ⟨t.tx.toArray⟩, .slice a t.ks.length c] 24) := ⟨_, rfl⟩
  have H0 : Hid (w0.heap[w.heap.size]? = some (.cells #[.string ⟨t.nm.toArray⟩, .string ⟨t.tx.toArray⟩, .slice a t.ks.length c] 24 (0, 0)) ∧ Below w.heap.size w w0) := by
    rw [hw0]
    exact ⟨heap_alloc_new _ _, (Below.refl _ _).alloc (Nat.le_refl _) _⟩
  clear hk hkd hsb hsm hels hsz hl hm he
  unfold ndV at KD KT KS KP K9 K10 KTR KSR ⊢
  go_enter Tryz.func7, Tryz.ntmps7
  go_wp2_with fail
  rw [← hw0]
  refine (KD.out _ H0.out.2).mono ?_
  rintro e w1 ⟨rfl, hb1⟩
  have hp1 := (hb1.block _ (blk_lt H0.out.1)).trans H0.out.1
  have h01 : Below w.heap.size w w1 := H0.out.2.trans (hb1.mono H0.out.2.size)
  have H1 : Hid (w1.heap[w.heap.size]? = some (.cells #[.string ⟨t.nm.toArray⟩, .string ⟨t.tx.toArray⟩, .slice a t.ks.length c] 24 (0, 0)) ∧ Below w.heap.size w w1) := ⟨hp1, h01⟩
  clear hb1 H0 hw0 KD
  by_cases hD : 40 < DD
  · have hDI : (40 : Int) < (DD : Int) := by omega
    clear hp1 h01
    go_wp2_with fail
    refine (KA.out _ H1.out.2).mono ?_
    rintro e w2 ⟨rfl, hb2⟩
    go_wp2
    go_ret
    exact ⟨rfl, H1.out.2.trans (hb2.mono H1.out.2.size)⟩
  · have hDI : ¬ (40 : Int) < (DD : Int) := by omega
    have c0 := cell_blk hp1 0
    have c1 := cell_blk hp1 1
    have c2 := cell_blk hp1 2
    simp only [List.getElem?_toArray] at c0 c1 c2
    clear hp1
    go_wp2_with fail
    refine (KT.out _ (HKZ.out.2.below h01)).mono ?_
    clear h01
    rintro e w2 ⟨aw, cw, rfl, hkw, hb12⟩
    obtain ⟨w3, hw3⟩ : ∃ w3, w3 = w2.alloc (.cells #[.string ⟨t.nm.toArray⟩, .string ⟨t.tx.toArray⟩, .slice aw t.ks.length cw] 30) := ⟨_, rfl⟩
    have b23 : Below w2.heap.size w2 w3 := by rw [hw3]; exact (Below.refl _ _).alloc (Nat.le_refl _) _
    have b13 : Below w1.heap.size w1 w3 := hb12.trans (b23.mono hb12.size)
    have hp3 := (b13.block _ (blk_lt H1.out.1)).trans H1.out.1
    have h03 : Below w.heap.size w w3 := H1.out.2.trans (b13.mono H1.out.2.size)
    have KP3 := KP.out w3 h03
    have d0 := cell_blk hp3 0
    have d1 := cell_blk hp3 1
    have d2 := cell_blk hp3 2
    simp only [List.getElem?_toArray] at d0 d1 d2
    have H3 : Hid (w3 = w2.alloc (.cells #[.string ⟨t.nm.toArray⟩, .string ⟨t.tx.toArray⟩, .slice aw t.ks.length cw] 30) ∧ Kd (fun b => w1.heap.size ≤ b) N w2 aw t.ks ∧ Below w1.heap.size w1 w2 ∧ Below w.heap.size w w3) := ⟨hw3, hkw, hb12, h03⟩
    rw [hw3] at KP3 d0 d1 d2
    clear hkw hb12 b23 b13 hp3 h03 hw3 c0 c1 c2
    go_wp2_with fail
    refine KP3.mono ?_
    rintro e w4 ⟨⟨px, py, rfl⟩, hb34⟩
    rw [← H3.out.1] at hb34
    have h04 : Below w.heap.size w w4 := H3.out.2.2.2.trans (hb34.mono H3.out.2.2.2.size)
    have H4 : Hid (Below w3.heap.size w3 w4 ∧ Below w.heap.size w w4) := ⟨hb34, h04⟩
    clear hb34 KP3 d0 d1 d2
    go_wp2_with fail
    refine (K9.out _ h04).mono ?_
    clear h04
    rintro e w5 ⟨aa, ca, rfl, hka, hb45⟩
    obtain ⟨w6, hw6⟩ : ∃ w6, w6 = w5.alloc (.cells #[.string ⟨R.nm.toArray⟩, .string ⟨R.tx.toArray⟩, .slice aa R.ks.length ca] 24) := ⟨_, rfl⟩
    have b56 : Below w5.heap.size w5 w6 := by rw [hw6]; exact (Below.refl _ _).alloc (Nat.le_refl _) _
    have h05 := H4.out.2.trans (hb45.mono H4.out.2.size)
    have h06 := h05.trans (b56.mono h05.size)
    have K9b := K9.out w6 h06
    have H6 : Hid (w6 = w5.alloc (.cells #[.string ⟨R.nm.toArray⟩, .string ⟨R.tx.toArray⟩, .slice aa R.ks.length ca] 24) ∧ T.Kt (fun b => w4.heap.size ≤ b) 16 w5 aa R.ks ∧ Below w4.heap.size w4 w5) := ⟨hw6, hka, hb45⟩
    rw [hw6] at K9b
    clear hka hb45 b56 h05 h06 hw6
    go_wp2_with fail
    refine K9b.mono ?_
    rintro e w7 ⟨ab, cb, rfl, hkb, hb67⟩
    rw [← H6.out.1] at hkb hb67
    obtain ⟨w8, hw8⟩ : ∃ w8, w8 = w7.alloc (.cells #[.string ⟨R.nm.toArray⟩, .string ⟨R.tx.toArray⟩, .slice ab R.ks.length cb] 24) := ⟨_, rfl⟩
    obtain ⟨ga, hLB⟩ := LB.start HKZ.out.1 H1.out.1 H1.out.2 H3.out.2.1 H3.out.2.2.1 H3.out.1 H4.out.1 H6.out.2.1 H6.out.2.2 H6.out.1 hkb.1 hb67 hw8
    have HLB : Hid (LB N t R w w8 w.heap.size w2.heap.size w5.heap.size w7.heap.size ga a aw ab c cw R.ks.length cb aa ca) := hLB
    clear hLB hkb hb67 K9b
    obtain ⟨p, hp⟩ : ∃ p, p = w.heap.size := ⟨_, rfl⟩
    obtain ⟨r, hr⟩ : ∃ r, r = w2.heap.size := ⟨_, rfl⟩
    obtain ⟨q1, hq1⟩ : ∃ q, q = w5.heap.size := ⟨_, rfl⟩
    obtain ⟨q2, hq2⟩ : ∃ q, q = w7.heap.size := ⟨_, rfl⟩
    go_wp2
    rw [← hw8, ← hr, ← hq1, ← hq2]
    have HP : Hid (p = w.heap.size) := hp
    rw [← hp, ← hr, ← hq1, ← hq2] at HLB
    rw [← hp]
    clear hw8 hp hr hq1 hq2 H3 H4 H6 H1 HKZ KP K9
    go_loopw [10] (fun i wx => ∃ k : Nat, k ≤ R.ks.length ∧ i = .int .i64 k ∧ LB N t R w wx p r q1 q2 ga a aw ab c cw R.ks.length cb aa ca) (fun i _ => R.ks.length - (intOf i).toNat)
    case atStart => exact ⟨0, Nat.zero_le _, rfl, HLB.out⟩
    case round =>
      obtain ⟨k, hkl, rfl, hlb⟩ := hrel
      clear HLB
      have c2 : wr.cell? ⟨q1, 2, none⟩ = some (.slice aa R.ks.length ca) := cell_blk hlb.b1 2
      by_cases hlt : k < R.ks.length
      · rcases hlb.ka with h0 | ⟨off, cs, tt, rfl, hga, hcs⟩
        · omega
        have HLB : Hid (LB N t R w wr p r q1 q2 ga a aw ab c cw R.ks.length cb (some ⟨ga, off, none⟩) ca) := hlb
        have HC := (show Hid (∀ w', Below wr.heap.size wr w' → w'.cell? ⟨q1, 2, none⟩ = some (.slice (some ⟨ga, off, none⟩) R.ks.length ca) ∧ (∃ v0 v1 v2, w'.cell? ⟨ga, off + k * 3, none⟩ = some v0 ∧ w'.cell? ⟨ga, off + k * 3 + 1, none⟩ = some v1 ∧ w'.cell? ⟨ga, off + k * 3 + 2, none⟩ = some v2) ∧ w'.frozen? ⟨ga, off + k * 3, none⟩ = false ∧ w'.frozen? ⟨ga, off + k * 3 + 1, none⟩ = false ∧ w'.frozen? ⟨ga, off + k * 3 + 2, none⟩ = false) from fun w' hb => by
          have hg := (hb.block ga (blk_lt hga)).trans hga
          have hq := (hb.block q1 (blk_lt hlb.b1)).trans hlb.b1
          refine ⟨cell_blk hq 2, ⟨_, _, _, (cell_blk hg _).trans (Array.getElem?_eq_getElem (by omega)), (cell_blk hg _).trans (Array.getElem?_eq_getElem (by omega)), (cell_blk hg _).trans (Array.getElem?_eq_getElem (by omega))⟩, frozen_blk hg _, frozen_blk hg _, frozen_blk hg _⟩)
        have hkI : (k : Int) < (R.ks.length : Int) := by omega
        have hbd : Below wr.heap.size wr wr.drew := (Below.refl _ _).drew
        have cd2 : wr.drew.cell? ⟨q1, 2, none⟩ = some (.slice (some ⟨ga, off, none⟩) R.ks.length ca) := c2
        clear hlb hga hcs
        go_wp2_with fail
        go_region_with (go_at_call 19; (with_reducible refine Calls.mono (KO.out _) ?_); rintro e w9 ⟨rfl, hb9⟩; have hb9' : Below wr.heap.size wr w9 := (by first | exact hb9 | exact hbd.trans hb9); obtain ⟨g1, ⟨v0, v1, v2, g2, g3, g4⟩, g5, g6, g7⟩ := HC.out w9 hb9')
        all_goals
          have HZ : Hid (LB N t R w (((w9.setCell ⟨ga, off + k * 3, none⟩ (.string ⟨#[122, 122]⟩)).setCell ⟨ga, off + k * 3 + 1, none⟩ (.string ⟨#[122, 122]⟩)).setCell ⟨ga, off + k * 3 + 2, none⟩ (.slice none 0 0)) p r q1 q2 ga a aw ab c cw R.ks.length cb (some ⟨ga, off, none⟩) ca) := (((HLB.out.below hb9').store _ _).store _ _).store _ _
          clear g1 g2 g3 g4 g5 g6 g7 hb9 hb9' HLB HC c2 cd2
          go_wp2
          go_roundw
          case rel => first | exact ⟨k + 1, by omega, by go_num, HZ.out⟩ | ((repeat apply Exists.intro); exact ⟨⟨k + 1, by omega, by go_num, HZ.out⟩, rfl⟩)
          case measure => simp [intOf]; omega
      · obtain rfl : k = R.ks.length := by omega
        have HLB : Hid (LB N t R w wr p r q1 q2 ga a aw ab c cw R.ks.length cb aa ca) := hlb
        clear hlb hlt
        go_wp2_with fail
        refine (K10.out _).mono ?_
        rintro e w9 ⟨ac, cc, rfl, hkc, hb9⟩
        obtain ⟨w10, hw10⟩ : ∃ w10, w10 = w9.alloc (.cells #[.string ⟨R.nm.toArray⟩, .string ⟨R.tx.toArray⟩, .slice ac R.ks.length cc] 30) := ⟨_, rfl⟩
        obtain ⟨q3, hq3⟩ : ∃ q, q = w9.heap.size := ⟨_, rfl⟩
        have b910 : Below w9.heap.size w9 w10 := by rw [hw10]; exact (Below.refl _ _).alloc (Nat.le_refl _) _
        have hl10 := HLB.out.below (hb9.trans (b910.mono hb9.size))
        have hq10 : w10.heap[q3]? = some (.cells #[.string ⟨R.nm.toArray⟩, .string ⟨R.tx.toArray⟩, .slice ac R.ks.length cc] 30 (0, 0)) := by
          rw [hw10, hq3]
          exact heap_alloc_new _ _
        have hkc10 : Inm 16 w10 ac R.ks := Inm.below (hkc.mono (fun _ _ _ => trivial)) b910
        have HF : Hid (∀ W, Below w10.heap.size w10 W → Below w.heap.size w W ∧ Inm N W a t.ks ∧ Inm N W aw t.ks ∧ Inm 16 W ab R.ks ∧ Inm 16 W ac R.ks) := by
          intro W hb
          have hl := hl10.below hb
          exact ⟨hl.lo, hl.kt.mono (fun _ _ _ => trivial), hl.kw.mono (fun _ _ _ => trivial), hl.kb.mono (fun _ _ _ => trivial), hkc10.below hb⟩
        have HC := (show Hid (∀ w', Below w10.heap.size w10 w' → w'.cell? ⟨p, 0, none⟩ = some (.string ⟨t.nm.toArray⟩) ∧ w'.cell? ⟨p, 1, none⟩ = some (.string ⟨t.tx.toArray⟩) ∧ w'.cell? ⟨p, 2, none⟩ = some (.slice a t.ks.length c) ∧ w'.cell? ⟨r, 0, none⟩ = some (.string ⟨t.nm.toArray⟩) ∧ w'.cell? ⟨r, 1, none⟩ = some (.string ⟨t.tx.toArray⟩) ∧ w'.cell? ⟨r, 2, none⟩ = some (.slice aw t.ks.length cw) ∧ w'.cell? ⟨q2, 0, none⟩ = some (.string ⟨R.nm.toArray⟩) ∧ w'.cell? ⟨q2, 1, none⟩ = some (.string ⟨R.tx.toArray⟩) ∧ w'.cell? ⟨q2, 2, none⟩ = some (.slice ab R.ks.length cb) ∧ w'.cell? ⟨q3, 0, none⟩ = some (.string ⟨R.nm.toArray⟩) ∧ w'.cell? ⟨q3, 1, none⟩ = some (.string ⟨R.tx.toArray⟩) ∧ w'.cell? ⟨q3, 2, none⟩ = some (.slice ac R.ks.length cc)) from fun w' hb => by
          have hl := hl10.below hb
          have hq := (hb.block _ (blk_lt hq10)).trans hq10
          exact ⟨cell_blk hl.bp 0, cell_blk hl.bp 1, cell_blk hl.bp 2, cell_blk hl.br 0, cell_blk hl.br 1, cell_blk hl.br 2, cell_blk hl.b2 0, cell_blk hl.b2 1, cell_blk hl.b2 2, cell_blk hq 0, cell_blk hq 1, cell_blk hq 2⟩)
        have hbd : Below w10.heap.size w10 w10.drew := (Below.refl _ _).drew
        obtain ⟨x0, x1, x2, y0, y1, y2, z0, z1, z2, u0, u1, u2⟩ := HC.out w10 (Below.refl _ _)
        clear hl10 hq10 hkc10 hkc hb9 b910 c2 HLB
        go_wp2_with fail
        rw [← hw10, ← hq3]
        clear hw10 hq3
        generalize hTN : (⟨t.nm.toArray⟩ : ByteArray) = tn at *
        generalize hTX : (⟨t.tx.toArray⟩ : ByteArray) = tx at *
        generalize hRN : (⟨R.nm.toArray⟩ : ByteArray) = rn at *
        generalize hRX : (⟨R.tx.toArray⟩ : ByteArray) = rx at *
        go_region_held3 (fun w' => w'.cell? ⟨p, 0, none⟩ = some (.string tn) ∧ w'.cell? ⟨p, 1, none⟩ = some (.string tx) ∧ w'.cell? ⟨p, 2, none⟩ = some (.slice a t.ks.length c) ∧ w'.cell? ⟨r, 0, none⟩ = some (.string tn) ∧ w'.cell? ⟨r, 1, none⟩ = some (.string tx) ∧ w'.cell? ⟨r, 2, none⟩ = some (.slice aw t.ks.length cw) ∧ w'.cell? ⟨q2, 0, none⟩ = some (.string rn) ∧ w'.cell? ⟨q2, 1, none⟩ = some (.string rx) ∧ w'.cell? ⟨q2, 2, none⟩ = some (.slice ab R.ks.length cb) ∧ w'.cell? ⟨q3, 0, none⟩ = some (.string rn) ∧ w'.cell? ⟨q3, 1, none⟩ = some (.string rx) ∧ w'.cell? ⟨q3, 2, none⟩ = some (.slice ac R.ks.length cc)) (first | (exact HC.out _ hb15) | (exact HC.out _ hb14) | (exact HC.out _ hb13) | (exact HC.out _ hb12) | (exact HC.out _ hb11) | (go_keep))
          (first
            | (go_at_call 12; (with_reducible refine Calls.mono (KT.out _ ?_) ?_); exact (HF.out _ hbd).2.1; rintro e w11 ⟨a2, c2, rfl, hk11, hb11'⟩; have hb11 : Below w10.heap.size w10 w11 := hbd.trans hb11'; have hI11 : Inm N w11 a2 t.ks := hk11.mono (fun _ _ _ => trivial))
            | (go_at_call 11; (with_reducible refine Calls.mono (KS.out a2 aw c2 cw _ hI11 ?_) ?_); exact (HF.out _ hb11).2.2.1; rintro e w12 ⟨rfl, hb12'⟩; have hb12 : Below w10.heap.size w10 w12 := hb11.trans (hb12'.mono hb11.size))
            | (go_at_call 12; (with_reducible refine Calls.mono (KTR.out ab cb _ ?_) ?_); exact (HF.out _ hb12).2.2.2.1; rintro e w13 ⟨a3, c3, rfl, hk13, hb13'⟩; have hb13 : Below w10.heap.size w10 w13 := hb12.trans (hb13'.mono hb12.size); have hI13 : Inm 16 w13 a3 R.ks := hk13.mono (fun _ _ _ => trivial))
            | (go_at_call 11; (with_reducible refine Calls.mono (KSR.out a3 ac c3 cc _ hI13 ?_) ?_); exact (HF.out _ hb13).2.2.2.2; rintro e w14 ⟨rfl, hb14'⟩; have hb14 : Below w10.heap.size w10 w14 := hb13.trans (hb14'.mono hb13.size))
            | (go_at_call 13; (with_reducible refine Calls.mono (KA.out _ ?_) ?_); exact (HF.out _ hb14).1; rintro e w15 ⟨rfl, hb15'⟩; have hb15 : Below w10.heap.size w10 w15 := hb14.trans (hb15'.mono hb14.size)))
        have H15 : Hid (Below w.heap.size w w15) := (HF.out _ hb15).1
        go_wp2
        go_ret
        exact ⟨rfl, H15.out⟩
end Go.Proofs.YtohkocknpmnakaaGreatDoor
