/-
  What From tells from a key on: the law's own question by its contract.
-/
import Derived.Test.YtpophalhmjchkaaSame
import Derived.Deep.CutRange
import Derived.Deep.DeepCutAuto
namespace Go.Proofs.Ytpophalhmjchkaa
open Go.RowKit Go.Shelf

attribute [local go_sem] Oper.semAt_some

theorem lbS_facts {L : List KV} (hs : Srt L) (k : ByteArray) : lbS (keysP L) k ≤ L.length ∧ (∀ j (h : j < L.length), klt L[j].1 k ↔ j < lbS (keysP L) k) := by
  have h1 := lbS_le (keysP L) k
  rw [show (keysP L).length = L.length from by simp [keysP]] at h1
  refine ⟨h1, fun j hj => ?_⟩
  have := lbS_lt (keysP_srt hs) k (h := j) (by simp [keysP]; exact hj)
  rw [← this]
  simp [keysP]

theorem Stp.set {M : Nat → Prop} {W : World} (h : ∀ k, M k → k < W.heap.size) (a : Addr) (v : Value) (ha : M a.block) : Stp M W M (W.setCell a v) :=
  ⟨Kep.set W v (fun h2 => h2 ha), fun _ _ h => h, fun k hk => by have := h k hk; simpa [World.setCell] using this⟩
/-- Behind the last mark: a bool in its box is what is told. -/
theorem ret_bool_mark {w W : World} {D p b n : Nat} {fn : Func} {tmps : Array Value} (hr : fn.results = #[.cell p 4]) (hp : tmps.getD p undef = .pointer (some ⟨b, 0, none⟩)) (hc : W.heap[b]? = some (.cells #[.bool true] 4 (0, 0))) (hd : W.heap[D]? = some (.deferred (some []))) (hbD : b ≠ D) (hD : w.heap.size ≤ D) (hb : Below w.heap.size w W) :
    LeavesInM Fence.wide n Try.prog fn tmps (fun e w' => e = .returned (.bool true) ∧ Below w.heap.size w w') [{ target := .collected D, args := #[] }] .returning W := by
  refine leaves_marks [D] _ (by simp) (by simpa using hd) (fun W' hk => ⟨_, results_bool hr tmps W' b (.bool true) hp (hk.cell (by simpa using hbD) (box_cell hc)), rfl, ?_⟩)
  exact hb.trans ((hk.mono (K' := fun q => q < w.heap.size) fun q _ h3 => by simp; omega).below hb.size)

/-- What 'from' holds between two rounds. -/
structure RI (w : World) (s : Nat) (l : Value) (n p : Nat) (st : Int) (W : World) : Prop where
  si : SI w s l n W
  st : W.heap[p]? = some (.cells #[.int .i64 st] 3 (0, 0))
  le : s + 3 ≤ p

set_option maxRecDepth 100000 in
set_option maxHeartbeats 4000000 in
theorem fromL_any (b h : Nat) (t : T) (L : List KV) (k : ByteArray) (a : Option Addr) (c : Nat) (w : World) (hT : Tr w b h t) (hL : toL h t = L) (hsr : Srt L) (hl : Sl w 2 a L.length c (pcs L)) (hn : L.length < 1000000000) :
    Calls Try.prog 16 #[.pointer (some ⟨b, 0, none⟩), .slice a L.length c, .string k] w fun e w' => e = .returned (.bool true) ∧ Below w.heap.size w w' := by
  obtain ⟨n, hn0⟩ : ∃ n, n = L.length := ⟨_, rfl⟩
  obtain ⟨i0, hi0⟩ : ∃ i0, i0 = lbS (keysP L) k := ⟨_, rfl⟩
  obtain ⟨f1, f2⟩ := lbS_facts hsr k
  rw [← hi0] at f1 f2
  rw [← hn0] at hl hn f1 ⊢
  have HD : Hid (L.drop i0 = fromL k L) := (by show _ = _; rw [hi0]; exact drop_from hsr)
  have HP : Hid (∀ j W', j < n → Below w.heap.size w W' → ∃ x y, L[j]? = some (x, y) ∧ (j < i0 → Op.bytesLess x.toList k.toList = true) ∧ (¬ j < i0 → Op.bytesLess x.toList k.toList = false) ∧ ∃ bb off, a = some ⟨bb, off, none⟩ ∧ W'.cell? ⟨bb, off + j * 2, none⟩ = some (.string x) ∧ W'.cell? ⟨bb, off + j * 2 + 1, none⟩ = some (.string y)) := (by
    intro j W' hj hb'
    have hj2 : j < L.length := by omega
    obtain ⟨bb, off, e, hbb, d0, d1⟩ := pair_at hl hj2
    refine ⟨L[j].1, L[j].2, List.getElem?_eq_getElem hj2, fun h => ?_, fun h => ?_, bb, off, e, (hb'.cell (p := ⟨bb, off + j * 2, none⟩) hbb).trans d0, (hb'.cell (p := ⟨bb, off + j * 2 + 1, none⟩) hbb).trans d1⟩
    · rw [less_klt]; exact decide_eq_true ((f2 j hj2).2 h)
    · rw [less_klt]; exact decide_eq_false (fun h3 => h ((f2 j hj2).1 h3)))
  have HN : Hid (n = L.length) := hn0
  have HTL : Hid (toL h t = L) := hL
  clear hn0 hL hi0 f2 hl hsr
  refine (callsIn_wide (n := 0)).1 ?_
  refine callsIn_of_wp_marks Try.func16 rfl trivial ?_ rfl
  simp only [Try.ntmps16, List.size_toArray, List.length_cons, List.length_nil, Nat.reduceAdd, Nat.reduceSub, Array.replicate_succ, Array.replicate_zero, List.push_toArray, List.append_toArray, List.nil_append, List.cons_append]
  refine wpIn_wide.2 ?_
  go_wp2
  obtain ⟨W, hW⟩ : ∃ W, W = ((w.alloc (.cells #[.slice a n c] 27)).alloc (.cells #[.bool false] 4)).alloc (.cells #[.int .i64 0] 3) := ⟨_, rfl⟩
  have hz : W.heap.size = w.heap.size + 1 + 1 + 1 := by rw [hW]; simp
  rw [← hW]
  have hb1 : Below w.heap.size w (w.alloc (.cells #[.slice a n c] 27)) := (Below.refl _ w).alloc (Nat.le_refl _) _
  have hb2 := hb1.alloc (by simp) (.cells #[.bool false] 4)
  have hbW : Below w.heap.size w W := by rw [hW]; exact hb2.alloc (by simp; omega) _
  have hsi : SI w w.heap.size (.slice a n c) 0 W := by
    refine ⟨?_, ?_, ?_, hbW⟩
    · rw [hW]; exact (made_kep (fun _ => True) (w.alloc (.cells #[.slice a n c] 27)) _ _).keep _ (by simp) trivial |>.trans (heap_alloc_new w _)
    · rw [hW]
      have := heap_alloc_new (w.alloc (.cells #[.slice a n c] 27)) (.cells #[.bool false] 4)
      rw [World.size_alloc] at this
      exact ((Kep.alloc (fun _ => True) _ _).keep _ (by simp) trivial).trans this
    · rw [hW]
      have := heap_alloc_new ((w.alloc (.cells #[.slice a n c] 27)).alloc (.cells #[.bool false] 4)) (.cells #[.int .i64 0] 3)
      rw [World.size_alloc, World.size_alloc] at this
      exact this
  have hzz : w.heap.size + 3 ≤ W.heap.size := by omega
  clear hW hb1 hb2 hz
  go_loopw [11] (fun _ wr => ∃ j : Nat, j ≤ i0 ∧ SI w w.heap.size (.slice a n c) j wr ∧ w.heap.size + 3 ≤ wr.heap.size) (fun _ wr => i0 + 1 - (intOf ((wr.cell? ⟨w.heap.size + 1 + 1, 0, none⟩).getD undef)).toNat)
  case atStart => exact ⟨0, Nat.zero_le _, hsi, hzz⟩
  case round =>
    obtain ⟨j, hj, h2, hzr⟩ := hrel
    have i1 := box_cell h2.i
    have i2 := box_free h2.i
    have i3 := box_cell h2.l
    by_cases hlt : j < i0
    · have hjn : j < n := by omega
      obtain ⟨x, y, _, e1, _, bb, off, rfl, d0, d1⟩ := HP.out j wr hjn h2.old
      have e2 := e1 hlt
      have hji : (j : Int) < (n : Int) := by omega
      clear e1
      go_wp2
      go_roundw
      case rel => exact ⟨j + 1, by omega, h2.next rfl (by omega), by simpa [World.setCell] using hzr⟩
      case measure =>
        rw [i1, box_cell (box_set h2.i _)]
        simp [intOf]
        omega
    · obtain rfl : j = i0 := by omega
      go_upto_region 2 with fail
      go_cut [23] from 11 to 23 (fun s w' => s = .bool false ∧ w' = wr)
      case first =>
        by_cases hjn : j < n
        · obtain ⟨x, y, _, _, e1, bb, off, rfl, d0, d1⟩ := HP.out j wr hjn h2.old
          have e2 := e1 hlt
          have hji : (j : Int) < (n : Int) := by omega
          clear e1
          go_wp2
          go_meet
          case rel => exact ⟨rfl, rfl⟩
        · have hji : ¬ (j : Int) < (n : Int) := by omega
          go_wp2
          go_meet
          case rel => exact ⟨rfl, rfl⟩
      case rest =>
        obtain ⟨rfl, rfl⟩ := hcut
        go_wp2_with (go_at_call 18; refine Calls.mono (from_any b _ _) ?_; rintro e w5 ⟨rfl, rfl⟩)
        obtain ⟨W1, hW1⟩ : ∃ W1, W1 = wc.alloc (.cells #[.int .i64 ((j : Int) + 3)] 3) := ⟨_, rfl⟩
        have hz1 : W1.heap.size = wc.heap.size + 1 := by rw [hW1]; simp
        rw [← hW1, ← hz1]
        have hb1 : Below w.heap.size w W1 := by rw [hW1]; exact h2.old.alloc h2.old.size _
        have hri : RI w w.heap.size (.slice a n c) j wc.heap.size ((j : Int) + 3) W1 := by
          rw [hW1]
          exact ⟨h2.kept (Kep.alloc (fun _ => True) wc _) (fun _ _ => trivial) rfl, heap_alloc_new wc _, hzr⟩
        have hsq := made_seq k hT hb1
        rw [HTL.out, ← HD.out] at hsq
        have HL : Hid (∀ pre x W', pre ++ [x] <+: L.drop j → Below w.heap.size w W' → j + pre.length < n ∧ ∃ bb off, a = some ⟨bb, off, none⟩ ∧ W'.cell? ⟨bb, off + (j + pre.length) * 2, none⟩ = some (.string x.1) ∧ W'.cell? ⟨bb, off + (j + pre.length) * 2 + 1, none⟩ = some (.string x.2)) := (by
          intro pre x W' hp hb'
          obtain ⟨h3, rfl⟩ := pre_get hp
          rw [List.length_drop, ← HN.out] at h3
          obtain ⟨x, y, hg, _, _, bb, off, e, d0, d1⟩ := HP.out (j + pre.length) W' (by omega) hb'
          obtain ⟨hq, hg⟩ := List.getElem?_eq_some_iff.1 hg
          refine ⟨by omega, bb, off, e, ?_, ?_⟩
          · rw [List.getElem_drop, hg]; exact d0
          · rw [List.getElem_drop, hg]; exact d1)
        have HX : Hid ((L.drop j).length = n - j) := (by show _ = _; rw [List.length_drop, HN.out])
        have HZ : Hid (W1.heap.size = wc.heap.size + 1) := hz1
        have hz3 : w.heap.size + 3 < W1.heap.size := by omega
        have hz4 : wc.heap.size < W1.heap.size := by omega
        have hjn0 : j ≤ n := by omega
        obtain ⟨st, hst⟩ : ∃ st, st = (j : Int) + 3 := ⟨_, rfl⟩
        rw [← hst] at hri ⊢
        have HST : Hid (st = (j : Int) + 3) := hst
        clear hW1 hz1 i1 i2 i3 h2 HP hsi hbW hst
        rename_i K hK
        refine wpIn_wide.1 (range_law (n := 0) (gf := 30) (lb := #[.pointer (some ⟨W1.heap.size, 0, none⟩), .pointer (some ⟨W1.heap.size + 1, 0, none⟩)]) rfl (enters_of Try.func30 (by kernel_rfl) rfl) hsq (made_lt hb1) (fun _ => rfl)
          (fun pre M W' => M = (fun q => q = w.heap.size + 1 ∨ q = w.heap.size + 2) ∧ RI w w.heap.size (.slice a n c) (j + pre.length) wc.heap.size st W' ∧ pre.length < 3)
          (fun c' _ _ W' => c' = .ret ∧ W'.heap[w.heap.size + 1]? = some (.cells #[.bool true] 4 (0, 0)) ∧ Below w.heap.size w W')
          (fun pre M W2 W3 h2 hk => ⟨h2.1, ⟨h2.2.1.si.kept hk (fun q hq => .inl (by simp; omega)) rfl, (hk.keep _ (Array.getElem?_eq_some_iff.1 h2.2.1.st).1 (.inl (by simp; omega))).trans h2.2.1.st, h2.2.1.le⟩, h2.2.2⟩)
          (fun c' pre M W2 W3 h2 hk => ⟨h2.1, (hk.keep _ (Array.getElem?_eq_some_iff.1 h2.2.1).1 (.inl (by simp; omega))).trans h2.2.1, h2.2.2.trans ((hk.mono (K' := fun q => q < w.heap.size) fun q _ h3 => .inl (by simp; omega)).below h2.2.2.size)⟩)
          (fun q => q = w.heap.size + 1 ∨ q = w.heap.size + 2) ?own ⟨rfl, ⟨hri.si.kept (made_kep (fun _ => True) W1 _ _) (fun _ _ => trivial) rfl, ((made_kep (fun _ => True) W1 _ _).keep _ (by omega) trivial).trans hri.st, hri.le⟩, by decide⟩
          (fun x => { tmps := #[.pointer (some ⟨b, 0, none⟩), .slice a n c, .string k, undef, .pointer (some ⟨w.heap.size, 0, none⟩), undef, .pointer (some ⟨w.heap.size + 1, 0, none⟩), .pointer (some ⟨w.heap.size + 1 + 1, 0, none⟩), .pointer (some ⟨wc.heap.size, 0, none⟩), .string x.1, .string x.2,
            u11, u12, u13, u14, u15, u16, u17, u18, u19, u20, u21, u22, .bool false, u24, u25, .int .i64 (j : Int), .int .i64 st, .pointer (some ⟨b, 0, none⟩), .string k, .func (.func 30) #[] #[.pointer (some ⟨W1.heap.size, 0, none⟩), .pointer (some ⟨W1.heap.size + 1, 0, none⟩)], .string x.1, .string x.2,
            undef, undef, undef, undef, undef, undef, undef, undef, undef, undef, undef, undef, undef, undef, undef, undef, undef, undef, undef, undef, undef, undef, undef, undef, undef, undef, undef, undef, undef, undef, undef], defers := [] }) ?assign ?body ?done ?stop)
        case own =>
          intro q hq
          have hlow := hb1.size
          refine ⟨?_, by rcases hq with rfl | rfl <;> simp <;> omega⟩
          rcases hq with rfl | rfl <;> rintro (h3 | h3 | h3) <;> omega
        case assign =>
          intro m l' x W2 K hK
          dsimp only [encP]
          gi_wp2
          exact hK
        case body =>
          rintro m l' pre ⟨x, y⟩ M1 W2 ⟨rfl, h2, hp3⟩ hpre
          obtain ⟨hlt2, bb, off, rfl, d0, d1⟩ := HL.out pre (x, y) W2 hpre h2.si.old
          obtain ⟨q, hq⟩ : ∃ q, q = j + pre.length := ⟨_, rfl⟩
          rw [← hq] at h2 hlt2 d0 d1
          have i1 := box_cell h2.si.i
          have i2 := box_free h2.si.i
          have i3 := box_cell h2.si.l
          have i4 := box_cell h2.st
          have i5 := box_cell h2.si.r
          have i6 := box_free h2.si.r
          have hltI : (q : Int) < (n : Int) := by omega
          have hle := h2.le
          have hne : ¬ wc.heap.size = w.heap.size + 1 + 1 := by omega
          have H2 : Hid _ := h2
          dsimp only at d0 d1
          have HQ : Hid (q = j + pre.length) := hq
          have HLT : Hid (∀ r, (r = w.heap.size + 1 ∨ r = w.heap.size + 2) → r < W2.heap.size) := (by
            rintro r (rfl | rfl)
            · exact (Array.getElem?_eq_some_iff.1 h2.si.r).1
            · exact (Array.getElem?_eq_some_iff.1 h2.si.i).1)
          have HPP : Hid (pre.length < 3) := hp3
          have HLE : Hid (w.heap.size + 3 ≤ wc.heap.size) := hle
          by_cases h3 : pre.length = 2
          · have e3 : (q : Int) + 1 = st := by have := HST.out; omega
            clear hq h3 hp3 hlt2 hz3 hz4 hzz hle hjn0 hlt hj hzr h2
            gi_wp2
            have h2 := H2.out
            refine ⟨_, (Stp.set HLT.out ⟨w.heap.size + 2, 0, none⟩ (.int .i64 st) (.inr rfl)).trans (Stp.set (fun r hr => by have := HLT.out r hr; simpa [World.setCell] using this) ⟨w.heap.size + 1, 0, none⟩ (.bool true) (.inl rfl)), rfl, box_set (box_other h2.si.r (by omega) _) _, ?_⟩
            exact (h2.si.old.setCell (p := ⟨w.heap.size + 2, 0, none⟩) (by show _ ≤ w.heap.size + 2; omega) _).setCell (p := ⟨w.heap.size + 1, 0, none⟩) (by show _ ≤ w.heap.size + 1; omega) _
          · have e3 : ¬ (q : Int) + 1 = st := by have := HST.out; omega
            have HP4 : Hid (pre.length + 1 < 3) := (show _ < _ by omega)
            clear hq h3 hp3 hlt2 hz3 hz4 hzz hle hjn0 hlt hj hzr h2
            gi_wp2
            have h2 := H2.out
            have hle := HLE.out
            refine ⟨_, Stp.set HLT.out ⟨w.heap.size + 2, 0, none⟩ _ (.inr rfl), rfl, ⟨?_, box_other h2.st (by omega) _, hle⟩, by have := HP4.out; simpa using this⟩
            rw [List.length_append, List.length_singleton, ← Nat.add_assoc, ← HQ.out]
            exact h2.si.next rfl (by omega)
        case done =>
          rintro D M1 W2 hD hMD ⟨rfl, h2, hp3⟩ hdef
          rw [HX.out, show j + (n - j) = n from by omega] at h2
          have i1 := box_cell h2.si.i
          have i3 := box_cell h2.si.l
          have i5 := box_cell h2.si.r
          have i6 := box_free h2.si.r
          have hDz : W1.heap.size + 2 ≤ D := by simpa using hD
          have H2 : Hid _ := h2
          have hbz := hb1.size
          have HDZ : Hid (w.heap.size + 1 ≠ D ∧ w.heap.size ≤ D) := ⟨by omega, by omega⟩
          clear hp3 hz3 hz4 hzz hjn0 hlt hj hzr h2 hDz hbz
          refine hK _ _ ?_
          go_wp2
          have h2 := H2.out
          exact ret_bool_mark rfl rfl (box_set h2.si.r _) ((Kep.set (K := fun q => q = D) W2 _ (fun e => HDZ.out.1 e)).keep D (Array.getElem?_eq_some_iff.1 hdef).1 rfl |>.trans hdef) HDZ.out.1 HDZ.out.2 (h2.si.old.setCell (p := ⟨w.heap.size + 1, 0, none⟩) (by show _ ≤ w.heap.size + 1; omega) _)
        case stop =>
          rintro D c' pre M1 W2 hD hMD hpre ⟨rfl, h2, hb2⟩ hdef
          have hDz : W1.heap.size + 2 ≤ D := by simpa using hD
          have hbz := hb1.size
          refine wpIn_wide.2 ?_
          go_wp2
          exact ret_bool_mark rfl rfl h2 hdef (by omega) (by omega) hb2
end Go.Proofs.Ytpophalhmjchkaa
