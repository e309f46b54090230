/-
  TreeRanges: the law's walk.
-/
import Derived.Test.YtpophalhmjchkaaScr
namespace Go.Proofs.Ytpophalhmjchkaa
open Go.RowKit Go.Shelf

attribute [local go_sem] Oper.semAt_some

/-- What the law holds while it ranges: how many came, how many of all count, which one came last. -/
structure NB (w wr : World) (k : ByteArray) (n al : Nat) (last : ByteArray) (W : World) : Prop where
  kb : KB w (.string k) 9 W
  n : W.heap[wr.heap.size]? = some (.cells #[.int .i64 (n : Int)] 3 (0, 0))
  al : W.heap[wr.heap.size + 1]? = some (.cells #[.int .i64 (al : Int)] 3 (0, 0))
  la : W.heap[wr.heap.size + 2]? = some (.cells #[.string last] 9 (0, 0))
  old : Below wr.heap.size wr W
  le : w.heap.size + 2 ≤ wr.heap.size
theorem NB.kept {w wr : World} {k : ByteArray} {n al : Nat} {last : ByteArray} {W W' : World} (h : NB w wr k n al last W) {K : Nat → Prop} (hk : Kep K W W') (hK : ∀ q, q < wr.heap.size + 3 → K q) : NB w wr k n al last W' := by
  have hle := h.le
  refine ⟨h.kb.kept hk (fun q hq => hK q (by omega)), (hk.keep _ (Array.getElem?_eq_some_iff.1 h.n).1 (hK _ (by omega))).trans h.n, (hk.keep _ (Array.getElem?_eq_some_iff.1 h.al).1 (hK _ (by omega))).trans h.al, (hk.keep _ (Array.getElem?_eq_some_iff.1 h.la).1 (hK _ (by omega))).trans h.la, h.old.trans ?_, hle⟩
  exact (hk.mono (K' := fun q => q < wr.heap.size) fun q _ h2 => hK q (by omega)).below h.old.size
theorem NB.setKb {w wr : World} {k : ByteArray} {n al : Nat} {last : ByteArray} {W : World} (h : NB w wr k n al last W) (q : Nat) (hq : wr.heap.size ≤ q) (v : Value) : KB w (.string k) 9 (W.setCell ⟨q, 0, none⟩ v) ∧ Below wr.heap.size wr (W.setCell ⟨q, 0, none⟩ v) := by
  have hle := h.le
  exact ⟨h.kb.kept (Kep.set (K := fun r => r < wr.heap.size) W v (by show ¬ q < _; omega)) (fun r hr => by show r < _; omega), h.old.setCell (p := ⟨q, 0, none⟩) hq _⟩
theorem NB.setN {w wr : World} {k : ByteArray} {n al : Nat} {last : ByteArray} {W : World} (h : NB w wr k n al last W) {v : Int} (hv : v = ((n + 1 : Nat) : Int)) : NB w wr k (n + 1) al last (W.setCell ⟨wr.heap.size, 0, none⟩ (.int .i64 v)) :=
  ⟨(h.setKb _ (Nat.le_refl _) _).1, by rw [box_set h.n, hv], box_other h.al (by omega) _, box_other h.la (by omega) _, (h.setKb _ (Nat.le_refl _) _).2, h.le⟩
theorem NB.setA {w wr : World} {k : ByteArray} {n al : Nat} {last : ByteArray} {W : World} (h : NB w wr k n al last W) {v : Int} (hv : v = ((al + 1 : Nat) : Int)) : NB w wr k n (al + 1) last (W.setCell ⟨wr.heap.size + 1, 0, none⟩ (.int .i64 v)) :=
  ⟨(h.setKb _ (by omega) _).1, box_other h.n (by omega) _, by rw [box_set h.al, hv], box_other h.la (by omega) _, (h.setKb _ (by omega) _).2, h.le⟩
theorem NB.setL {w wr : World} {k : ByteArray} {n al : Nat} {last : ByteArray} {W : World} (h : NB w wr k n al last W) (x : ByteArray) : NB w wr k n al x (W.setCell ⟨wr.heap.size + 2, 0, none⟩ (.string x)) :=
  ⟨(h.setKb _ (by omega) _).1, box_other h.n (by omega) _, box_other h.al (by omega) _, box_set h.la _, (h.setKb _ (by omega) _).2, h.le⟩
theorem NB.made {w wr : World} {k : ByteArray} (h : KB w (.string k) 9 wr) : NB w wr k 0 0 ⟨#[]⟩ (((wr.alloc (.cells #[.int .i64 0] 3)).alloc (.cells #[.int .i64 0] 3)).alloc (.cells #[.string ⟨#[]⟩] 9)) := by
  have hk := (made_kep (fun _ => True) wr (.cells #[.int .i64 0] 3) (.cells #[.int .i64 0] 3)).trans (Kep.alloc (fun _ => True) _ (.cells #[.string ⟨#[]⟩] 9))
  refine ⟨h.kept hk (fun _ _ => trivial), ?_, ?_, ?_, (hk.mono (K' := fun q => q < wr.heap.size) fun _ _ _ => trivial).below (Nat.le_refl _), (Array.getElem?_eq_some_iff.1 h.r).1⟩
  · exact ((Kep.alloc (fun _ => True) _ _).keep _ (by simp; omega) trivial).trans (heap_alloc2_old _ _ _)
  · exact ((Kep.alloc (fun _ => True) _ _).keep _ (by simp) trivial).trans (heap_alloc2_new _ _ _)
  · have := heap_alloc_new ((wr.alloc (.cells #[.int .i64 0] 3)).alloc (.cells #[.int .i64 0] 3)) (.cells #[.string ⟨#[]⟩] 9)
    rw [World.size_alloc, World.size_alloc] at this
    exact this
/-- The key that came last. -/
def lastK (pre : List KV) : ByteArray := (pre.getLast?.map (·.1)).getD ⟨#[]⟩

theorem lastK_snoc (pre : List KV) (x : KV) : lastK (pre ++ [x]) = x.1 := by simp [lastK]
theorem from_mem {k : ByteArray} {L : List KV} {p : KV} (h : p ∈ fromL k L) : ¬ klt p.1 k := by
  have := (List.mem_filter.1 h).2
  simpa using this
theorem from_step {k x y : ByteArray} {L pre : List KV} (hs : Srt L) (h : pre ++ [(x, y)] <+: fromL k L) : ¬ klt x k ∧ (pre.length ≠ 0 → klt (lastK pre) x) := by
  refine ⟨from_mem (p := (x, y)) (h.subset (by simp)), fun h0 => ?_⟩
  have h1 : Srt (pre ++ [(x, y)]) := (from_srt (k := k) hs).sublist h.sublist
  have h2 := (List.pairwise_append.1 h1).2.2
  obtain ⟨p, hp⟩ : ∃ p, pre.getLast? = some p := by
    cases h3 : pre.getLast? with
    | none => rw [List.getLast?_eq_none_iff] at h3; rw [h3] at h0; simp at h0
    | some p => exact ⟨p, rfl⟩
  rw [lastK, hp]
  exact h2 p (List.mem_of_getLast? hp) (x, y) (by simp)

set_option maxRecDepth 100000 in
set_option maxHeartbeats 8000000 in
theorem ranges_walk (a : Option Addr) (c : Nat) (ops : List OpT) (k : ByteArray) (w : World) (ho : Ops w a ops) :
    Calls Try.prog 7 #[.slice a ops.length c, .string k] w fun e w' => e = .returned (.bool true) ∧ Below w.heap.size w w' := by
  obtain ⟨n, hn0⟩ : ∃ n, n = ops.length := ⟨_, rfl⟩
  rw [← hn0]
  have HN : Hid (n = ops.length) := hn0
  have HO : Hid (Ops w a ops) := ho
  clear hn0 ho
  obtain ⟨W0, hW0⟩ : ∃ W0, W0 = (w.alloc (.cells #[.string k] 9)).alloc (.cells #[.bool false] 4) := ⟨_, rfl⟩
  have hkb0 : KB w (.string k) 9 W0 := by rw [hW0]; exact KB.made w _ _
  have hnew := new_any W0
  rw [hW0] at hnew
  have HKB : Hid (KB w (.string k) 9 W0 ∧ W0 = (w.alloc (.cells #[.string k] 9)).alloc (.cells #[.bool false] 4)) := ⟨hkb0, hW0⟩
  clear hW0 hkb0
  refine (callsIn_wide (n := 0)).1 ?_
  refine callsIn_of_wp_marks Try.func7 rfl trivial ?_ rfl
  simp only [Try.ntmps7, List.size_toArray, List.length_cons, List.length_nil, Nat.reduceAdd, Nat.reduceSub, Array.replicate_succ, Array.replicate_zero, List.push_toArray, List.append_toArray, List.nil_append, List.cons_append]
  refine wpIn_wide.2 ?_
  go_wp2_with fail
  refine Calls.mono hnew ?_
  rintro e w1 ⟨b0, rfl, ht0, hb0⟩
  rw [← HKB.out.2] at hb0
  have hkb1 := HKB.out.1.below hb0
  clear HKB hb0 W0 hnew
  by_cases h200 : 200 < n
  · have hgt : (200 : Int) < (n : Int) := by omega
    have i1 := box_cell hkb1.r
    have i2 := box_free hkb1.r
    go_wp2_with (go_at_call 9; refine Calls.mono (awake_any _) ?_; rintro e w2 ⟨rfl, hb2⟩; have hkb2 := hkb1.below hb2; have j1 := box_cell hkb2.r; have j2 := box_free hkb2.r)
    exact ret_bool_plain rfl rfl (box_set hkb2.r _) (hkb2.old.setCell (p := ⟨w.heap.size + 1, 0, none⟩) (by show _ ≤ w.heap.size + 1; omega) _)
  · have hgt : ¬ (200 : Int) < (n : Int) := by omega
    have hn2 : n ≤ 200 := by omega
    have HI0 : Hid (Tr w1 b0 0 (.leaf []) ∧ KB w (.string k) 9 w1) := ⟨ht0, hkb1⟩
    clear ht0 hkb1 h200
    go_wp2
    go_loopw [5, 6] (fun tv iv wr => ∃ (j b h : Nat) (t : T), tv = .pointer (some ⟨b, 0, none⟩) ∧ iv = .int .i64 j ∧ j ≤ n ∧ Tr wr b h t ∧ toL h t = PL ops j ∧ KB w (.string k) 9 wr) (fun _ iv _ => n - (intOf iv).toNat)
    case atStart => exact ⟨0, b0, 0, _, rfl, rfl, Nat.zero_le _, HI0.out.1, rfl, HI0.out.2⟩
    case round =>
      obtain ⟨j, b, h, t, rfl, rfl, hj, ht, htl, hkb⟩ := hrel
      clear HI0
      by_cases hlt : j < n
      · have hlo : j < ops.length := by have := HN.out; omega
        obtain ⟨bb, off, rfl, hcc⟩ := HO.out.at hlo
        obtain ⟨c0, c1, -⟩ := hcc wr.drew hkb.old.drew
        have HC5 : Hid (∀ w5 b5, Got wr.drew w5 b5 (PL ops (j + 1)) → w5.cell? ⟨bb, off + j * 3, none⟩ = some (.string ops[j].1) ∧ w5.cell? ⟨bb, off + j * 3 + 1, none⟩ = some (.string ops[j].2.1)) := (by
          rintro w5 b5 ⟨h5, t5, q1, q2, q3⟩
          obtain ⟨e0, e1, -⟩ := hcc w5 (hkb.old.drew.trans (q3.mono hkb.old.size))
          exact ⟨e0, e1⟩)
        have hput := put_any b h t ops[j].1 ops[j].2.1 wr.drew (ht.below (Below.refl _ wr).drew) (by rw [htl]; have := PL_len ops j (by omega); omega)
        rw [htl, ← PL_succ hlo] at hput
        obtain ⟨x, hx⟩ : ∃ x, x = ops[j].1 := ⟨_, rfl⟩
        obtain ⟨y, hy⟩ : ∃ y, y = ops[j].2.1 := ⟨_, rfl⟩
        rw [← hx] at c0 hput HC5
        rw [← hy] at c1 hput HC5
        have hji : (j : Int) < (n : Int) := by omega
        have HKR : Hid (KB w (.string k) 9 wr) := hkb
        clear hcc hx hy ht htl hkb hlo
        go_wp2
        go_region_held3 (fun w' => w'.cell? ⟨bb, off + j * 3, none⟩ = some (.string x) ∧ w'.cell? ⟨bb, off + j * 3 + 1, none⟩ = some (.string y)) (go_keep)
          (first
            | (go_at_call 13; refine Calls.mono hput ?_; rintro e w5 ⟨b5, rfl, hg5⟩; have s0 := (HC5.out w5 b5 hg5).1; have s1 := (HC5.out w5 b5 hg5).2))
        have hkb5 : KB w (.string k) 9 w5 := by
          obtain ⟨h5, t5, q1, q2, q3⟩ := hg5
          exact (HKR.out.kept (Kep.drew (fun _ => True) wr) (fun _ _ => trivial)).below q3
        have HG5 : Hid (∃ h t, Tr w5 b5 h t ∧ toL h t = PL ops (j + 1)) := (by
          obtain ⟨h5, t5, q1, q2, q3⟩ := hg5
          exact ⟨h5, t5, q1, q2⟩)
        clear hg5 s0 s1 HC5 hput HKR
        go_wp2
        go_roundw
        case rel =>
          obtain ⟨h5, t5, q1, q2⟩ := HG5.out
          exact ⟨j + 1, b5, h5, t5, rfl, by go_num, by omega, q1, q2, hkb5⟩
        case measure => simp [intOf]; omega
      · obtain rfl : j = n := by omega
        have hji : ¬ (j : Int) < (j : Int) := by omega
        go_upto_region 12 with fail
        obtain ⟨W, hW⟩ : ∃ W, W = ((wr.alloc (.cells #[.int .i64 0] 3)).alloc (.cells #[.int .i64 0] 3)).alloc (.cells #[.string ⟨#[]⟩] 9) := ⟨_, rfl⟩
        have hnb : NB w wr k 0 0 ⟨#[]⟩ W := by rw [hW]; exact NB.made hkb
        have hz : W.heap.size = wr.heap.size + 3 := by rw [hW]; simp
        rw [← hW]
        have i1 := box_cell hnb.kb.k
        have HZ : Hid (W.heap.size = wr.heap.size + 3) := hz
        have hzl : wr.heap.size + 2 < W.heap.size := by omega
        clear hW hz
        go_wp2_with (go_at_call 18; refine Calls.mono (from_any b _ _) ?_; rintro e w5 ⟨rfl, rfl⟩)
        have hsq := made_seq k ht hnb.old
        rw [htl] at hsq
        have HS : Hid (Srt (PL ops j)) := PL_srt ops j (by have := HN.out; omega)
        have HLN : Hid ((PL ops j).length ≤ 200) := (by have h3 := PL_len ops j (by have := HN.out; omega); exact Nat.le_trans h3 hn2)
        rename_i K1 hK1
        refine wpIn_wide.1 (range_law (n := 0) (gf := 30) (lb := #[.pointer (some ⟨W.heap.size, 0, none⟩), .pointer (some ⟨W.heap.size + 1, 0, none⟩)]) rfl (enters_of Try.func30 (by kernel_rfl) rfl) hsq (made_lt hnb.old) (fun _ => rfl)
          (fun pre M W' => M = (fun q => q = wr.heap.size ∨ q = wr.heap.size + 2) ∧ NB w wr k pre.length 0 (lastK pre) W')
          (fun _ _ _ _ => False)
          (fun pre M W2 W3 h2 hk => ⟨h2.1, h2.2.kept hk (fun q hq => .inl (by simp; omega))⟩) (fun _ _ _ _ _ h2 _ => h2)
          (fun q => q = wr.heap.size ∨ q = wr.heap.size + 2) ?own ⟨rfl, hnb.kept (made_kep (fun _ => True) W _ _) (fun _ _ => trivial)⟩ ?act ?assign ?body ?done ?stop)
        case assign =>
          intro m l' x W2 K hK
          dsimp only [encP]
          gi_wp2
          exact hK
        case own =>
          rintro q (rfl | rfl)
          · exact ⟨by rintro (h2 | h2 | h2) <;> omega, by simp; omega⟩
          · exact ⟨by rintro (h2 | h2 | h2) <;> omega, by simp; omega⟩
        case body =>
          rintro m l' pre ⟨x, y⟩ M1 W2 ⟨rfl, h2⟩ hpre
          obtain ⟨f1, f2⟩ := from_step HS.out hpre
          have e1 : Op.bytesLess x.toList k.toList = false := by rw [less_klt]; exact decide_eq_false f1
          have hq8 : pre.length < 1000 := by
            have h3 := hpre.length_le
            have h4 := List.length_filter_le (fun p => !decide (klt p.1 k)) (PL ops j)
            rw [List.length_append] at h3
            have h5 : (fromL k (PL ops j)).length ≤ (PL ops j).length := h4
            have := HLN.out
            simp at h3
            omega
          have HP : Hid (NB w wr k pre.length 0 (lastK pre) W2) := h2
          have i1 := box_cell h2.kb.k
          have i2 := box_cell h2.n
          have i3 := box_free h2.n
          have i4 := box_cell h2.la
          have i5 := box_free h2.la
          have HLT : Hid (∀ r, (r = wr.heap.size ∨ r = wr.heap.size + 2) → r < W2.heap.size) := (by
            rintro r (rfl | rfl)
            · exact (Array.getElem?_eq_some_iff.1 h2.n).1
            · exact (Array.getElem?_eq_some_iff.1 h2.la).1)
          obtain ⟨q, hq⟩ : ∃ q, q = pre.length := ⟨_, rfl⟩
          obtain ⟨la, hla⟩ : ∃ la, la = lastK pre := ⟨_, rfl⟩
          rw [← hq] at i2 f2 hq8
          rw [← hla] at i4 f2
          have HQ : Hid (q = pre.length ∧ la = lastK pre) := ⟨hq, hla⟩
          by_cases h0 : q = 0
          · have hqi : ¬ (0 : Int) < (q : Int) := by omega
            clear h2 hpre hq hla f1 f2 hzl h0
            gi_wp2
            have h2 := HP.out
            refine ⟨_, (Stp.set HLT.out ⟨wr.heap.size + 2, 0, none⟩ (.string x) (.inr rfl)).trans (Stp.set (fun r hr => by have := HLT.out r hr; simpa [World.setCell] using this) ⟨wr.heap.size, 0, none⟩ _ (.inl rfl)), rfl, ?_⟩
            rw [lastK_snoc, List.length_append]
            exact (h2.setL x).setN (by rw [HQ.out.1]; rfl)
          · have hqi : (0 : Int) < (q : Int) := by omega
            have e2 : Op.bytesLess la.toList x.toList = true := by rw [less_klt]; exact decide_eq_true (f2 h0)
            have e3 : Op.bytesLess x.toList la.toList = false := by rw [less_klt]; exact decide_eq_false (klt_asymm (f2 h0))
            have e4 : (x.toList == la.toList) = false := by rw [eq_ba]; exact decide_eq_false (fun e => by have h5 := f2 h0; rw [e] at h5; exact klt_irrefl _ h5)
            clear h2 hpre hq hla f1 f2 hzl h0
            gi_wp2
            have h2 := HP.out
            refine ⟨_, (Stp.set HLT.out ⟨wr.heap.size + 2, 0, none⟩ (.string x) (.inr rfl)).trans (Stp.set (fun r hr => by have := HLT.out r hr; simpa [World.setCell] using this) ⟨wr.heap.size, 0, none⟩ _ (.inl rfl)), rfl, ?_⟩
            rw [lastK_snoc, List.length_append]
            exact (h2.setL x).setN (by rw [HQ.out.1]; rfl)
        case done =>
          rintro D1 M1 W2 hD1 hMD1 ⟨rfl, h2⟩ hdef1
          have i1 := box_cell h2.kb.k
          have HD1 : Hid (W.heap.size + 2 ≤ D1) := (show _ ≤ _ by simpa using hD1)
          have hD1z := HD1.out
          have hD1l : D1 < W2.heap.size := (Array.getElem?_eq_some_iff.1 hdef1).1
          clear hD1 hsq hMD1
          refine hK1 _ _ ?_
          go_wp2_with (go_at_call 18; refine Calls.mono (from_any b _ _) ?_; rintro e w5 ⟨rfl, rfl⟩)
          have hsq := made_seq ⟨#[]⟩ ht h2.old
          rw [htl, from_all] at hsq
          obtain ⟨la, hla⟩ : ∃ la, la = lastK (fromL k (PL ops j)) := ⟨_, rfl⟩
          obtain ⟨n1, hn1⟩ : ∃ n1, n1 = (fromL k (PL ops j)).length := ⟨_, rfl⟩
          rw [← hla, ← hn1] at h2
          have HN1 : Hid (n1 = (fromL k (PL ops j)).length) := hn1
          clear hla hn1
          rename_i K2 hK2
          have hol := h2.old.size
          have hzw2 : wr.heap.size + 2 < W2.heap.size := (Array.getElem?_eq_some_iff.1 h2.la).1
          refine wpIn_wide.1 (range_law (n := 0) (gf := 30) (lb := #[.pointer (some ⟨W2.heap.size, 0, none⟩), .pointer (some ⟨W2.heap.size + 1, 0, none⟩)]) rfl (enters_of Try.func30 (by kernel_rfl) rfl) hsq (made_lt h2.old) (fun _ => rfl)
            (fun pre M W' => M = (fun q => q = wr.heap.size + 1) ∧ NB w wr k n1 (fromL k pre).length la W' ∧ W'.heap[D1]? = some (.deferred (some [])))
            (fun _ _ _ _ => False)
            (fun pre M W2 W3 h2 hk => ⟨h2.1, h2.2.1.kept hk (fun q hq => .inl (by simp; omega)), (hk.keep _ (Array.getElem?_eq_some_iff.1 h2.2.2).1 (.inl (by simp; omega))).trans h2.2.2⟩) (fun _ _ _ _ _ h2 _ => h2)
            (fun q => q = wr.heap.size + 1) ?own2 ⟨rfl, h2.kept (made_kep (fun _ => True) W2 _ _) (fun _ _ => trivial), ((made_kep (fun _ => True) W2 _ _).keep _ hD1l trivial).trans hdef1⟩ ?act2 ?assign2 ?body2 ?done2 ?stop2)
          case assign2 =>
            intro m l' x W2 K hK
            dsimp only [encP]
            gi_wp2
            exact hK
          case own2 =>
            rintro q rfl
            exact ⟨by rintro (h2 | h2 | h2) <;> omega, by simp; omega⟩
          case stop2 =>
            rintro D c pre M1 W2 hD hMD hpre h2 hdef
            exact h2.elim
          case body2 =>
            rintro m l' pre ⟨x, y⟩ M1 W3 ⟨rfl, h3, hd3⟩ hpre
            have hq8 : (fromL k pre).length < 1000 := by
              have h5 := hpre.length_le
              have h4 : (fromL k pre).length ≤ pre.length := List.length_filter_le _ _
              have := HLN.out
              simp at h5
              omega
            have HP : Hid (NB w wr k n1 (fromL k pre).length la W3 ∧ W3.heap[D1]? = some (.deferred (some []))) := ⟨h3, hd3⟩
            have i1 := box_cell h3.kb.k
            have i2 := box_cell h3.al
            have i3 := box_free h3.al
            have hlt3 := (Array.getElem?_eq_some_iff.1 h3.al).1
            have HLT : Hid (∀ r, r = wr.heap.size + 1 → r < W3.heap.size) := (by rintro r rfl; exact hlt3)
            obtain ⟨q, hq⟩ : ∃ q, q = (fromL k pre).length := ⟨_, rfl⟩
            rw [← hq] at i2 hq8
            have HQ : Hid (q = (fromL k pre).length) := hq
            have HNE : Hid (D1 ≠ wr.heap.size + 1) := (show _ ≠ _ by omega)
            by_cases hx : klt x k
            · have e1 : Op.bytesLess x.toList k.toList = true := by rw [less_klt]; exact decide_eq_true hx
              have e2 : (x.toList == k.toList) = false := by rw [eq_ba]; exact decide_eq_false (fun e => by rw [e] at hx; exact klt_irrefl _ hx)
              have HX : Hid ((fromL k (pre ++ [(x, y)])).length = (fromL k pre).length) := (by show _ = _; simp [fromL, hx])
              clear h3 hpre hq hzl hx hd3 hlt3 hol hzw2 hD1z hD1l
              gi_wp2
              exact ⟨_, Stp.refl HLT.out, rfl, by rw [HX.out]; exact HP.out.1, HP.out.2⟩
            · have e1 : Op.bytesLess x.toList k.toList = false := by rw [less_klt]; exact decide_eq_false hx
              have HX : Hid ((fromL k (pre ++ [(x, y)])).length = (fromL k pre).length + 1) := (by show _ = _; simp [fromL, hx])
              clear h3 hpre hq hzl hx hd3 hlt3 hol hzw2 hD1z hD1l
              gi_wp2
              refine ⟨_, Stp.set HLT.out ⟨wr.heap.size + 1, 0, none⟩ _ rfl, rfl, ?_, box_other HP.out.2 HNE.out _⟩
              rw [HX.out]
              exact HP.out.1.setA (by rw [HQ.out]; rfl)
          case done2 =>
            rintro D2 M1 W3 hD2 hMD2 ⟨rfl, h3, hd1⟩ hdef2
            rw [← HN1.out] at h3
            have i1 := box_cell h3.kb.k
            have hD2z : W2.heap.size + 2 ≤ D2 := by simpa using hD2
            have hD2l : D2 < W3.heap.size := (Array.getElem?_eq_some_iff.1 hdef2).1
            have hD1l3 : D1 < W3.heap.size := (Array.getElem?_eq_some_iff.1 hd1).1
            clear hD2 hsq hMD2
            refine hK2 _ _ ?_
            go_wp2_with (go_at_call 18; refine Calls.mono (from_any b _ _) ?_; rintro e w5 ⟨rfl, rfl⟩)
            have hsq := made_seq k ht h3.old
            rw [htl] at hsq
            rename_i K3 hK3
            have hol3 := h3.old.size
            have hzw3 : wr.heap.size + 2 < W3.heap.size := (Array.getElem?_eq_some_iff.1 h3.la).1
            refine wpIn_wide.1 (range_law (n := 0) (gf := 30) (lb := #[.pointer (some ⟨W3.heap.size, 0, none⟩), .pointer (some ⟨W3.heap.size + 1, 0, none⟩)]) rfl (enters_of Try.func30 (by kernel_rfl) rfl) hsq (made_lt h3.old) (fun _ => rfl)
              (fun pre M W' => M = (fun _ => False) ∧ NB w wr k n1 n1 la W' ∧ W'.heap[D1]? = some (.deferred (some [])) ∧ W'.heap[D2]? = some (.deferred (some [])))
              (fun c' pre M W' => c' = .exit 6 ∧ NB w wr k n1 n1 la W' ∧ W'.heap[D1]? = some (.deferred (some [])) ∧ W'.heap[D2]? = some (.deferred (some [])))
              (fun pre M W2 W3 h2 hk => ⟨h2.1, h2.2.1.kept hk (fun q hq => .inl (by simp; omega)), (hk.keep _ (Array.getElem?_eq_some_iff.1 h2.2.2.1).1 (.inl (by simp; omega))).trans h2.2.2.1, (hk.keep _ (Array.getElem?_eq_some_iff.1 h2.2.2.2).1 (.inl (by simp; omega))).trans h2.2.2.2⟩)
              (fun c' pre M W2 W3 h2 hk => ⟨h2.1, h2.2.1.kept hk (fun q hq => .inl (by simp; omega)), (hk.keep _ (Array.getElem?_eq_some_iff.1 h2.2.2.1).1 (.inl (by simp; omega))).trans h2.2.2.1, (hk.keep _ (Array.getElem?_eq_some_iff.1 h2.2.2.2).1 (.inl (by simp; omega))).trans h2.2.2.2⟩)
              (fun _ => False) (fun q hq => hq.elim) ⟨rfl, h3.kept (made_kep (fun _ => True) W3 _ _) (fun _ _ => trivial), ((made_kep (fun _ => True) W3 _ _).keep _ hD1l3 trivial).trans hd1, ((made_kep (fun _ => True) W3 _ _).keep _ hD2l trivial).trans hdef2⟩ ?act3 ?assign3 ?body3 ?done3 ?stop3)
            case assign3 =>
              intro m l' x W2 K hK
              dsimp only [encP]
              gi_wp2
              exact hK
            case body3 =>
              rintro m l' pre ⟨x, y⟩ M1 W4 ⟨rfl, h4, hd14, hd24⟩ hpre
              obtain ⟨f1, -⟩ := from_step HS.out hpre
              have e1 : Op.bytesLess x.toList k.toList = false := by rw [less_klt]; exact decide_eq_false f1
              have i1 := box_cell h4.kb.k
              gi_wp2
              exact ⟨_, Stp.refl (fun q hq => hq.elim), rfl, h4, hd14, hd24⟩
            case done3 =>
              rintro D3 M1 W4 hD3 hMD3 ⟨rfl, h4, hd14, hd24⟩ hdef3
              have j3 := box_cell h4.n
              have j4 := box_cell h4.al
              have hr4 := (Array.getElem?_eq_some_iff.1 h4.kb.r).1
              have hle4 := h4.le
              have hD3z : W3.heap.size + 2 ≤ D3 := by simpa using hD3
              have HND : Hid ([D3, D2, D1].Nodup) := (by show List.Nodup _; simp; omega)
              have HNB : Hid (w.heap.size + 1 ∉ [D3, D2, D1]) := (by show ¬ _; simp; omega)
              have HGE : Hid (∀ D ∈ [D3, D2, D1], w.heap.size ≤ D) := (by show ∀ D ∈ _, _; simp; omega)
              clear hD1z hD1l hD2z hD2l hD1l3 hD3 hMD3 hsq hzl hol hzw2 hD3z hle4
              refine hK3 _ _ ?_
              go_wp2_with (go_at_call 9; refine Calls.mono (awake_any _) ?_; rintro e w6 ⟨rfl, hb6⟩; have hr6 := (hb6.block _ hr4).trans h4.kb.r; have j1 := box_cell hr6; have j2 := box_free hr6)
              exact ret_bool_marks [D3, D2, D1] rfl rfl (box_set hr6 _) HND.out (by
                intro D hD
                have hd6 : w6.heap[D]? = some (.deferred (some [])) := by
                  simp only [List.mem_cons, List.not_mem_nil, or_false] at hD
                  rcases hD with rfl | rfl | rfl
                  · exact (hb6.block _ (Array.getElem?_eq_some_iff.1 hdef3).1).trans hdef3
                  · exact (hb6.block _ (Array.getElem?_eq_some_iff.1 hd24).1).trans hd24
                  · exact (hb6.block _ (Array.getElem?_eq_some_iff.1 hd14).1).trans hd14
                exact box_other hd6 (fun e => HNB.out (by rw [← e]; exact hD)) _) HNB.out HGE.out ((h4.kb.old.trans (hb6.mono h4.kb.old.size)).setCell (p := ⟨w.heap.size + 1, 0, none⟩) (by show _ ≤ w.heap.size + 1; omega) _)
            case stop3 =>
              rintro D3 c' pre M1 W4 hD3 hMD3 hpre ⟨rfl, h4, hd14, hd24⟩ hdef3
              have j3 := box_cell h4.n
              have j4 := box_cell h4.al
              have hr4 := (Array.getElem?_eq_some_iff.1 h4.kb.r).1
              have hle4 := h4.le
              have hD3z : W3.heap.size + 2 ≤ D3 := by simpa using hD3
              have HND : Hid ([D3, D2, D1].Nodup) := (by show List.Nodup _; simp; omega)
              have HNB : Hid (w.heap.size + 1 ∉ [D3, D2, D1]) := (by show ¬ _; simp; omega)
              have HGE : Hid (∀ D ∈ [D3, D2, D1], w.heap.size ≤ D) := (by show ∀ D ∈ _, _; simp; omega)
              clear hD1z hD1l hD2z hD2l hD1l3 hD3 hMD3 hpre hsq hzl hol hzw2 hD3z hle4
              refine wpIn_wide.2 ?_
              go_wp2_with (go_at_call 9; refine Calls.mono (awake_any _) ?_; rintro e w6 ⟨rfl, hb6⟩; have hr6 := (hb6.block _ hr4).trans h4.kb.r; have j1 := box_cell hr6; have j2 := box_free hr6)
              exact ret_bool_marks [D3, D2, D1] rfl rfl (box_set hr6 _) HND.out (by
                intro D hD
                have hd6 : w6.heap[D]? = some (.deferred (some [])) := by
                  simp only [List.mem_cons, List.not_mem_nil, or_false] at hD
                  rcases hD with rfl | rfl | rfl
                  · exact (hb6.block _ (Array.getElem?_eq_some_iff.1 hdef3).1).trans hdef3
                  · exact (hb6.block _ (Array.getElem?_eq_some_iff.1 hd24).1).trans hd24
                  · exact (hb6.block _ (Array.getElem?_eq_some_iff.1 hd14).1).trans hd14
                exact box_other hd6 (fun e => HNB.out (by rw [← e]; exact hD)) _) HNB.out HGE.out ((h4.kb.old.trans (hb6.mono h4.kb.old.size)).setCell (p := ⟨w.heap.size + 1, 0, none⟩) (by show _ ≤ w.heap.size + 1; omega) _)
        case stop =>
          rintro D c pre M1 W2 hD hMD hpre h2 hdef
          exact h2.elim
end Go.Proofs.Ytpophalhmjchkaa
