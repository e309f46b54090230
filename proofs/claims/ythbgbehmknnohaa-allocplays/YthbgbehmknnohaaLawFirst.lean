/-
  AllocFirst: the law's walk.
-/
import Derived.Test.YthbgbehmknnohaaAwake
namespace Go.Proofs.Ythbgbehmknnohaa
open Go.RowKit Go.Shelf

/-- Whole numbers that came in. -/
def Ins (w : World) (a : Option Addr) (zs : List Int) : Prop := zs = [] ∨ ∃ b off, a = some ⟨b, off, none⟩ ∧ b < w.heap.size ∧ ∀ j (h : j < zs.length), w.cell? ⟨b, off + j, none⟩ = some (.int .i64 zs[j]) ∧ zs[j] ≤ 9223372036854775807
theorem Ins.at {w : World} {a : Option Addr} {zs : List Int} (h : Ins w a zs) {j : Nat} (hj : j < zs.length) : ∃ b off, a = some ⟨b, off, none⟩ ∧ zs[j] ≤ 9223372036854775807 ∧ ∀ w', Below w.heap.size w w' → w'.cell? ⟨b, off + j, none⟩ = some (.int .i64 zs[j]) := by
  rcases h with rfl | ⟨b, off, rfl, hb, hc⟩
  · simp at hj
  · exact ⟨b, off, rfl, (hc j hj).2, fun w' hw => (hw.cell (p := ⟨b, off + j, none⟩) hb).trans (hc j hj).1⟩
/-- Bools that came in. -/
def Bls (w : World) (a : Option Addr) (zs : List Bool) : Prop := zs = [] ∨ ∃ b off, a = some ⟨b, off, none⟩ ∧ b < w.heap.size ∧ ∀ j (h : j < zs.length), w.cell? ⟨b, off + j, none⟩ = some (.bool zs[j])
theorem Bls.at {w : World} {a : Option Addr} {zs : List Bool} (h : Bls w a zs) {j : Nat} (hj : j < zs.length) : ∃ b off, a = some ⟨b, off, none⟩ ∧ ∀ w', Below w.heap.size w w' → w'.cell? ⟨b, off + j, none⟩ = some (.bool zs[j]) := by
  rcases h with rfl | ⟨b, off, rfl, hb, hc⟩
  · simp at hj
  · exact ⟨b, off, rfl, fun w' hw => (hw.cell (p := ⟨b, off + j, none⟩) hb).trans (hc j hj)⟩
/-- A row of bools of one's own. -/
def Row (w : World) (g : Nat) (T : List Bool) : Prop := w.heap[g]? = some (.cells (T.map Value.bool).toArray 4 (0, 0))

theorem Row.cell {w : World} {g : Nat} {T : List Bool} (h : Row w g T) {j : Nat} (hj : j < T.length) : w.cell? ⟨g, j, none⟩ = some (.bool T[j]) := by
  rw [cell_blk h]
  simp [hj]
theorem Row.free {w : World} {g : Nat} {T : List Bool} (h : Row w g T) (j : Nat) : w.frozen? ⟨g, j, none⟩ = false := frozen_blk h j
theorem Row.set {w : World} {g : Nat} {T : List Bool} (h : Row w g T) (j : Nat) (x : Bool) : Row (w.setCell ⟨g, j, none⟩ (.bool x)) g (T.set j x) := by
  rw [Row, set_blk h, List.setIfInBounds_toArray, List.map_set]
theorem Row.lt {w : World} {g : Nat} {T : List Bool} (h : Row w g T) : g < w.heap.size := (Array.getElem?_eq_some_iff.1 h).1
theorem info4 : (Try.prog.info? 4).map (fun i => (i.zero, i.size, i.bytes)) = some (some (.bool false), 1, 1) := by kernel_rfl
/-- A row of false. -/
def noA (n : Nat) : Array Value := ((List.replicate n false).map Value.bool).toArray
theorem make_bools (w : World) (n : Nat) (hn : n ≤ 4096) : (Instr.makeSlice 52 (.int .i64 (n : Int)) (.int .i64 (n : Int))).run Try.prog w = .ok (.slice (some ⟨w.heap.size, 0, none⟩) n n) (w.alloc (.cells (noA n) 4)) := by
  obtain ⟨i0, hi, hz0, hz1, hz2⟩ := info_parts info4
  have := run_make (P := Try.prog) w 52 4 i0 _ Try.underlying52 hi hz0 .i64 .i64 (n : Int) (n : Int) (by omega) (by omega) (by rw [hz2]; omega) (by omega)
  rw [this, hz1]
  congr 3
  simp only [Int.toNat_natCast, Nat.mul_one, madeCells]
  apply Array.ext_getElem?
  intro i
  by_cases h : i < n
  · simp [h, Value.cells, noA, Nat.mod_one]
  · simp [h, noA]
/-- What the law holds between two rounds: the space and its own row tell the same. -/
structure FI (w : World) (b g N : Nat) (L : List Bool) (W : World) : Prop where
  sp : Spc W b L
  len : L.length = N
  row : Row W g L
  old : Below w.heap.size w W
  hb : w.heap.size ≤ b
  hg : b < g
/-- The first free window. -/
def wantF (L : List Bool) (k : Int) : Int := if k < 1 then -1 else match takeL k.toNat (runsL L) with
  | none => -1
  | some x => (x.1 : Nat)
/-- What the search has found when it looks at a. -/
def Wnt (L : List Bool) (k : Int) (a : Nat) (v : Int) : Prop :=
  (v = -1 ∧ (a = 0 ∨ (1 ≤ k ∧ (a : Int) - 1 + k ≤ (L.length : Int))) ∧ ∀ a', a' < a → ¬ winP L k.toNat a') ∨ ∃ a0 : Nat, v = (a0 : Int) ∧ a = a0 + 1 ∧ 1 ≤ k ∧ winP L k.toNat a0 ∧ ∀ a', a' < a0 → ¬ winP L k.toNat a'
theorem first_win {L : List Bool} {k : Int} (hk : 1 ≤ k) {a0 : Nat} (h1 : winP L k.toNat a0) (h2 : ∀ a', a' < a0 → ¬ winP L k.toNat a') : wantF L k = (a0 : Int) := by
  rw [wantF, if_neg (by omega)]
  cases hx : takeL k.toNat (runsL L) with
  | none => exact (take_none (by omega) hx a0 h1).elim
  | some x =>
    obtain ⟨q1, q2⟩ := take_some (by omega) hx
    have h3 : ¬ x.1 < a0 := fun h => h2 _ h q1
    have h4 : ¬ a0 < x.1 := fun h => q2 _ h h1
    show (x.1 : Int) = _
    omega
theorem Wnt.done {L : List Bool} {k : Int} {a : Nat} {v : Int} (h : Wnt L k a v) (he : k < 1 ∨ (L.length : Int) < a + k ∨ 0 ≤ v) : v = wantF L k := by
  rcases h with ⟨rfl, h1, h2⟩ | ⟨a0, rfl, _, h1, h2, h3⟩
  · by_cases hk : k < 1
    · rw [wantF, if_pos hk]
    · rw [wantF, if_neg hk]
      cases hx : takeL k.toNat (runsL L) with
      | none => rfl
      | some x =>
        obtain ⟨q1, q2⟩ := take_some (by omega) hx
        have h4 := q1.1
        exact (h2 x.1 (by omega) q1).elim
  · exact (first_win h1 h2 h3).symm
theorem Wnt.next {L : List Bool} {k : Int} {a : Nat} (h : Wnt L k a (-1)) (hk : 1 ≤ k) (he : (a : Int) + k ≤ L.length) (hn : ¬ winP L k.toNat a) : Wnt L k (a + 1) (-1) := by
  rcases h with ⟨_, h1, h2⟩ | ⟨a0, e, _⟩
  · refine .inl ⟨rfl, .inr ⟨hk, by omega⟩, fun a' ha => ?_⟩
    by_cases e : a' = a
    · subst e; exact hn
    · exact h2 a' (by omega)
  · omega
theorem Wnt.found {L : List Bool} {k : Int} {a : Nat} (h : Wnt L k a (-1)) (hk : 1 ≤ k) (hn : winP L k.toNat a) : Wnt L k (a + 1) (a : Int) := by
  rcases h with ⟨_, h1, h2⟩ | ⟨a0, e, _⟩
  · exact .inr ⟨a, rfl, rfl, hk, hn, h2⟩
  · omega
theorem first_cases (L : List Bool) (k : Int) : ((takeF L k).2.1 ≠ 0 ∧ wantF L k = -1 ∧ (takeF L k).2.2 = L) ∨
    ∃ X K : Nat, k = (K : Int) ∧ 1 ≤ K ∧ (takeF L k).1 = (X : Int) ∧ (takeF L k).2.1 = 0 ∧ wantF L k = (X : Int) ∧ winP L K X ∧ (takeF L k).2.2 = putB L X K true := by
  by_cases hk : k < 1
  · left
    rw [takeF, wantF, if_pos hk, if_pos hk]
    exact ⟨by show (1 : Int) ≠ 0; decide, rfl, rfl⟩
  · obtain ⟨K, rfl⟩ : ∃ K : Nat, k = (K : Int) := ⟨k.toNat, by omega⟩
    rw [takeF, wantF, if_neg hk, if_neg hk]
    cases hx : takeL (K : Int).toNat (runsL L) with
    | none => exact .inl ⟨by show (60 : Int) ≠ 0; decide, rfl, rfl⟩
    | some x => exact .inr ⟨x.1, K, rfl, by omega, rfl, rfl, rfl, by simpa using (take_some (by omega) hx).1, rfl⟩
theorem FI.take {w : World} {b g N : Nat} {L L' : List Bool} {W W' : World} (h : FI w b g N L W) (hs : Spc W' b L') (hk : Kep (fun q => q ≠ b) W W') : Spc W' b L' ∧ Row W' g L ∧ Below w.heap.size w W' ∧ w.heap.size ≤ b ∧ b < g := by
  have h1 := h.hg
  have h2 := h.hb
  refine ⟨hs, (hk.keep g h.row.lt (by omega)).trans h.row, h.old.trans ((hk.mono (K' := fun q => q < w.heap.size) fun q _ h3 => by omega).below h.old.size), h2, h1⟩
theorem putB_same {L : List Bool} {a k : Nat} {t : Bool} (h : a + k ≤ L.length) (ha : allB L a k t) : putB L a k t = L := by
  apply List.ext_getElem?
  intro i
  rw [putB_get t h]
  by_cases h1 : a ≤ i ∧ i < a + k
  · rw [if_pos h1]
    have := ha (i - a) (by omega)
    rw [show a + (i - a) = i from by omega] at this
    exact this.symm
  · rw [if_neg h1]
theorem all_step {L : List Bool} {a j : Nat} {fr : Bool} (h : fr = true ↔ allB L a j false) (hl : a + j < L.length) : (fr && !L[a + j]) = true ↔ allB L a (j + 1) false := by
  rw [Bool.and_eq_true, h]
  constructor
  · rintro ⟨h1, h2⟩ i hi
    by_cases e : i = j
    · subst e; rw [List.getElem?_eq_getElem hl]; simpa using h2
    · exact h1 i (by omega)
  · intro h1
    refine ⟨fun i hi => h1 i (by omega), ?_⟩
    have := h1 j (by omega)
    rw [List.getElem?_eq_getElem hl] at this
    simpa using this
theorem cnt_step {L : List Bool} {j : Nat} (h : j < L.length) : (L.take (j + 1)).count false = (L.take j).count false + (if L[j] = false then 1 else 0) := by
  rw [List.take_succ_eq_append_getElem h, List.count_append, List.count_singleton]
  cases L[j] <;> simp
set_option maxRecDepth 100000 in
set_option maxHeartbeats 8000000 in
theorem first_walk (n : Int) (a1 a2 : Option Addr) (c1 c2 : Nat) (zs : List Int) (gs : List Bool) (w : World) (h1 : Ins w a1 zs) (h2 : Bls w a2 gs) :
    Calls Try.prog 5 #[.int .i64 n, .slice a1 zs.length c1, .slice a2 gs.length c2] w fun e w' => e = .returned (.bool true) ∧ Below w.heap.size w w' := by
  by_cases hb : n < 0 ∨ 4096 < n
  · have hnew := new_bad w n hb
    clear hb h1 h2
    go_enter Try.func5, Try.ntmps5
    go_wp2_with (first
      | (go_at_call 6; refine Calls.mono hnew ?_; rintro e w1 ⟨rfl, rfl⟩)
      | (go_at_call 8; refine Calls.mono (awake_any _) ?_; rintro e w2 ⟨rfl, b2⟩))
    go_ret
    exact ⟨rfl, b2⟩
  · obtain ⟨N, rfl⟩ : ∃ N : Nat, n = (N : Int) := ⟨n.toNat, by omega⟩
    have hnew := new_ok w N (by omega)
    by_cases h5 : 500 < N
    · have h5I : (500 : Int) < (N : Int) := by omega
      clear hb h1 h2
      go_enter Try.func5, Try.ntmps5
      go_wp2_with (first
        | (go_at_call 6; refine Calls.mono hnew ?_; rintro e w1 ⟨rfl, q1, b1⟩)
        | (go_at_call 8; refine Calls.mono (awake_any _) ?_; rintro e w2 ⟨rfl, b2⟩))
      go_ret
      exact ⟨rfl, b1.trans (b2.mono b1.size)⟩
    · have h5I : ¬ (500 : Int) < (N : Int) := by omega
      clear hb
      have HI : Hid (Ins w a1 zs ∧ Bls w a2 gs) := ⟨h1, h2⟩
      clear h1 h2
      have hN5 : N ≤ 500 := by omega
      clear h5
      go_enter Try.func5, Try.ntmps5
      go_wp2_with fail
      refine Calls.mono hnew ?_
      rintro e w1 ⟨rfl, q1, b1⟩
      have hmk := make_bools w1 N (by omega)
      have HF : Hid (FI w w.heap.size w1.heap.size N (List.replicate N false) (w1.alloc (.cells (noA N) 4))) := (by
        have hb1 : Below w1.heap.size w1 (w1.alloc (.cells (noA N) 4)) := (Below.refl _ _).alloc (Nat.le_refl _) _
        exact ⟨q1.below hb1, by simp, heap_alloc_new _ _, b1.trans (hb1.mono b1.size), Nat.le_refl _, q1.lt⟩)
      obtain ⟨b, hbe⟩ : ∃ b, b = w.heap.size := ⟨_, rfl⟩
      rw [← hbe] at HF ⊢
      clear hnew q1 b1 hbe
      go_wp2
      clear hmk
      obtain ⟨W0, hW0⟩ : ∃ W0, W0 = w1.alloc (.cells (noA N) 4) := ⟨_, rfl⟩
      obtain ⟨g, hge⟩ : ∃ g, g = w1.heap.size := ⟨_, rfl⟩
      rw [← hW0, ← hge] at HF ⊢
      clear hW0 hge
      generalize decide (500 < (N : Int)) = d5
      clear h5I
      go_loopw [10] (fun v wr => ∃ (i : Nat) (L : List Bool), v = .int .i64 i ∧ i ≤ 60 ∧ FI w b g N L wr) (fun v _ => 60 - (intOf v).toNat)
      case atStart => exact ⟨0, _, rfl, by omega, HF.out⟩
      case round =>
        obtain ⟨i, L, rfl, hi60, hfi⟩ := hrel
        clear HF
        by_cases hlt : i < zs.length ∧ i < 60
        · obtain ⟨sb, so, rfl, hkm, hcs⟩ := HI.out.1.at hlt.1
          have cz := hcs wr hfi.old
          obtain ⟨k, hk⟩ : ∃ k, k = zs[i] := ⟨_, rfl⟩
          rw [← hk] at cz hkm
          have t1 : (i : Int) < (zs.length : Int) := by omega
          have t2 : (i : Int) < 60 := by omega
          have htk := take_any wr b L k hfi.sp
          have hL := hfi.len
          have HFI : Hid (FI w b g N L wr) := hfi
          have HK : Hid (k = zs[i] ∧ ∀ w', Below w.heap.size w w' → w'.cell? ⟨sb, so + i, none⟩ = some (.int .i64 zs[i])) := ⟨hk, hcs⟩
          clear hcs hk hfi
          obtain ⟨at0, hat⟩ : ∃ x, x = (takeF L k).1 := ⟨_, rfl⟩
          obtain ⟨f0, hf0⟩ : ∃ x, x = (takeF L k).2.1 := ⟨_, rfl⟩
          rw [← hat, ← hf0] at htk
          have HT : Hid (at0 = (takeF L k).1 ∧ f0 = (takeF L k).2.1) := ⟨hat, hf0⟩
          clear hat hf0
          go_upto_block 2 with (go_at_call 9; refine Calls.mono htk ?_; rintro e w2 ⟨rfl, q1, q2⟩)
          have hfk := HFI.out.take q1 q2
          have HFK : Hid (Spc w2 b (takeF L k).2.2 ∧ Row w2 g L ∧ Below w.heap.size w w2 ∧ w.heap.size ≤ b ∧ b < g) := hfk
          have HC : Hid (∀ j (hj : j < L.length), w2.cell? ⟨g, j, none⟩ = some (.bool L[j])) := fun j hj => hfk.2.1.cell hj
          clear hfk q1 q2 cz t1 t2 htk
          go_cut [14, 15, 16, 17] from 64 to 96 (fun v _ _ _ wc => v = .int .i64 (wantF L k) ∧ wc = w2)
          case first =>
            go_wp2_with fail
            go_loop [14, 15] (fun v x => ∃ (a : Nat) (z : Int), v = .int .i64 z ∧ x = .int .i64 a ∧ Wnt L k a z) (fun _ x => N + 1 - (intOf x).toNat)
            case atStart => exact ⟨0, -1, rfl, rfl, .inl ⟨rfl, .inl rfl, fun _ h => by omega⟩⟩
            case round =>
              obtain ⟨a, z, rfl, rfl, hw⟩ := hrel
              have HW : Hid (Wnt L k a z) := hw
              have HD := fun he => hw.done he
              have HDD : Hid ((k < 1 ∨ (L.length : Int) < a + k ∨ 0 ≤ z) → z = wantF L k) := HD
              clear HD
              by_cases hk1 : k < 1
              · have hk2 : ¬ 1 ≤ k := by omega
                clear hw
                go_wp2
                go_meet
                case rel => exact ⟨by rw [HDD.out (.inl hk1)], rfl⟩
              · have hk2 : 1 ≤ k := by omega
                have hab : (a : Int) + k ≤ 9223372036854775807 := by
                  rcases hw with ⟨_, h1 | h1, _⟩ | ⟨a0, _, h1, _, h2, _⟩
                  · omega
                  · omega
                  · have := h2.1; omega
                clear hw
                by_cases h2 : (a : Int) + k ≤ (N : Int)
                · by_cases hz : z < 0
                  · obtain ⟨K, rfl⟩ : ∃ K : Nat, k = (K : Int) := ⟨k.toNat, by omega⟩
                    obtain rfl : z = -1 := by
                      rcases HW.out with ⟨h1, _⟩ | ⟨a0, h1, _⟩
                      · exact h1
                      · omega
                    have hKL : a + K ≤ L.length := by omega
                    go_wp2_with fail
                    go_loop [16, 17] (fun v x => ∃ (j : Nat) (fr : Bool), v = .bool fr ∧ x = .int .i64 ((a : Int) + (j : Int)) ∧ j ≤ K ∧ (fr = true ↔ allB L a j false)) (fun _ x => a + K - (intOf x).toNat)
                    case atStart => exact ⟨0, true, rfl, by simp, Nat.zero_le _, by simp [allB_zero]⟩
                    case round =>
                      obtain ⟨j, fr, rfl, rfl, hjK, hfr⟩ := hrel
                      have HFR : Hid (fr = true ↔ allB L a j false) := hfr
                      clear hfr
                      by_cases hjl : j < K
                      · have hjI : (a : Int) + (j : Int) < (a : Int) + (K : Int) := by omega
                        have hlj : a + j < L.length := by omega
                        have HST : Hid ((fr && !L[a + j]) = true ↔ allB L a (j + 1) false) := all_step HFR.out hlj
                        have hjn : (a : Int) + (j : Int) < (N : Int) := by omega
                        cases fr with
                        | true =>
                          have cg := HC.out (a + j) hlj
                          obtain ⟨x, hx⟩ : ∃ x, x = L[a + j] := ⟨_, rfl⟩
                          rw [← hx] at cg HST
                          have eaj : ((a : Int) + (j : Int)).toNat = a + j := by omega
                          clear hx
                          go_wp2
                          go_round
                          case rel => exact ⟨j + 1, !x, rfl, by go_num, by omega, by have := HST.out; simpa using this⟩
                          case measure => simp [intOf]; omega
                        | false =>
                          go_wp2
                          go_round
                          case rel => exact ⟨j + 1, false, rfl, by go_num, by omega, by have := HST.out; simpa using this⟩
                          case measure => simp [intOf]; omega
                      · obtain rfl : j = K := by omega
                        have hjI : ¬ (a : Int) + (j : Int) < (a : Int) + (j : Int) := by omega
                        cases fr with
                        | true =>
                          go_wp2
                          go_round
                          case rel => exact ⟨a + 1, (a : Int), rfl, by go_num, HW.out.found hk2 ⟨by simpa using hKL, by simpa using HFR.out.1 rfl⟩⟩
                          case measure => simp [intOf]; omega
                        | false =>
                          go_wp2
                          go_round
                          case rel => exact ⟨a + 1, -1, rfl, by go_num, HW.out.next hk2 (by omega) (fun h => by have := HFR.out.2 (by simpa using h.2); cases this)⟩
                          case measure => simp [intOf]; omega
                  · go_wp2
                    go_meet
                    case rel => exact ⟨by rw [HDD.out (.inr (.inr (by omega)))], rfl⟩
                · go_wp2
                  go_meet
                  case rel => exact ⟨by rw [HDD.out (.inr (.inl (by omega)))], rfl⟩
          case rest =>
            obtain ⟨rfl, rfl⟩ := hcut
            rcases first_cases L k with ⟨e1, e2, e3⟩ | ⟨X, K, rfl, hK1, e1, e2, e3, hw, e4⟩
            · rw [e2]
              have hfb : (f0 == 0) = false := by rw [HT.out.2]; simpa using e1
              have HN : Hid (FI w b g N L wc) := (by
                obtain ⟨s1, s2, s3, s4, s5⟩ := HFK.out
                rw [e3] at s1
                exact ⟨s1, hL, s2, s3, s4, s5⟩)
              clear e1 e2 e3
              go_wp2
              go_roundw
              case rel => exact ⟨i + 1, L, by go_num, by omega, HN.out⟩
              case measure => simp [intOf]; omega
            · rw [e3]
              obtain rfl : at0 = (X : Int) := HT.out.1.trans e1
              obtain rfl : f0 = 0 := HT.out.2.trans e2
              have HW : Hid (winP L K X ∧ 1 ≤ K ∧ (takeF L (K : Int)).2.2 = putB L X K true) := ⟨hw, hK1, e4⟩
              have hXK : X + K ≤ N := by have := hw.1; omega
              clear e1 e2 e3 e4 hw
              go_upto_region 24 with fail
              go_cut [18] from 113 to 123 (fun v wd => (∃ kp : Bool, v = .bool kp) ∧ wd = wc)
              case first =>
                by_cases hig : i < gs.length
                · have hgI : ¬ (gs.length : Int) ≤ (i : Int) := by omega
                  obtain ⟨gb, go, rfl, hgc⟩ := HI.out.2.at hig
                  have cg := hgc wc HFK.out.2.2.1
                  go_wp2
                  go_meet
                  case rel => exact ⟨⟨_, rfl⟩, rfl⟩
                · have hgI : (gs.length : Int) ≤ (i : Int) := by omega
                  go_wp2
                  go_meet
                  case rel => exact ⟨⟨_, rfl⟩, rfl⟩
              case rest =>
                obtain ⟨⟨kp, rfl⟩, rfl⟩ := hcut
                obtain ⟨w2, rfl⟩ : ∃ x, x = wc := ⟨_, rfl⟩
                go_wp2_with fail
                go_loopw [19] (fun v wr => ∃ j : Nat, v = .int .i64 ((X : Int) + (j : Int)) ∧ j ≤ K ∧ Row wr g (putB L X j kp) ∧ Kep (fun q => q ≠ g) w2 wr ∧ wr.heap.size = w2.heap.size) (fun v _ => X + K - (intOf v).toNat)
                case atStart => exact ⟨0, by simp, Nat.zero_le _, by rw [putB_zero]; exact HFK.out.2.1, Kep.refl _ _, rfl⟩
                case round =>
                  obtain ⟨j, rfl, hjK, hrow, hkp, hsz⟩ := hrel
                  by_cases hjl : j < K
                  · have hjI : (X : Int) + (j : Int) < (X : Int) + (K : Int) := by omega
                    have hpl : (putB L X j kp).length = L.length := putB_len kp (by omega)
                    have hlj : X + j < (putB L X j kp).length := by omega
                    have cg := hrow.cell hlj
                    have fg := hrow.free (X + j)
                    have exj : ((X : Int) + (j : Int)).toNat = X + j := by omega
                    have hjn : (X : Int) + (j : Int) < (N : Int) := by omega
                    obtain ⟨y, hy⟩ : ∃ y, y = (putB L X j kp)[X + j] := ⟨_, rfl⟩
                    rw [← hy] at cg
                    have HR : Hid (Row (wr.setCell ⟨g, X + j, none⟩ (.bool kp)) g (putB L X (j + 1) kp) ∧ Kep (fun q => q ≠ g) w2 (wr.setCell ⟨g, X + j, none⟩ (.bool kp)) ∧ (wr.setCell ⟨g, X + j, none⟩ (.bool kp)).heap.size = w2.heap.size) := (by
                      refine ⟨?_, hkp.trans (Kep.set wr _ (by simp)), by simpa [World.setCell] using hsz⟩
                      rw [← putB_step (by omega)]
                      exact hrow.set _ _)
                    clear hy hrow hkp hsz hpl hlj
                    go_wp2
                    go_roundw
                    case rel => exact ⟨j + 1, by go_num, by omega, HR.out⟩
                    case measure => simp [intOf]; omega
                  · obtain rfl : j = K := by omega
                    have hjI : ¬ (X : Int) + (j : Int) < (X : Int) + (j : Int) := by omega
                    obtain ⟨s1, s2, s3, s4, s5⟩ := HFK.out
                    rw [HW.out.2.2] at s1
                    have s1' : Spc wr b (putB L X j true) := s1.kept (hkp.keep b s1.lt (by omega))
                    have s3' : Below w.heap.size w wr := s3.trans ((hkp.mono (K' := fun q => q < w.heap.size) fun q _ h3 => by omega).below s3.size)
                    have hXj : X + j ≤ L.length := by omega
                    cases kp with
                    | true =>
                      have HN : Hid (FI w b g N (putB L X j true) wr) := ⟨s1', by rw [putB_len _ hXj]; exact hL, hrow, s3', s4, s5⟩
                      clear s1 s1' s2 s3 s3' s4 s5 hrow hkp hsz
                      go_wp2
                      go_roundw
                      case rel => exact ⟨i + 1, _, by go_num, by omega, HN.out⟩
                      case measure => simp [intOf]; omega
                    | false =>
                      have hgv := give_any wr b (putB L X j true) (X : Int) (j : Int) s1' (by omega)
                      have hT : turnB (putB L X j true) (X : Int) (j : Int) true = true := turnB_iff.2 ⟨by omega, by have := HW.out.2.1; omega, by rw [putB_len _ hXj]; omega, by simpa using putB_all true hXj⟩
                      rw [hT, if_pos rfl, if_pos rfl, Int.toNat_natCast, Int.toNat_natCast, putB_back hXj HW.out.1.2] at hgv
                      have hrL : putB L X j false = L := putB_same hXj HW.out.1.2
                      rw [hrL] at hrow
                      have HN : Hid (∀ w3, Spc w3 b L → Kep (fun q => q ≠ b) wr w3 → FI w b g N L w3) := (by
                        intro w3 q1 q2
                        exact ⟨q1, hL, (q2.keep g hrow.lt (by omega)).trans hrow, s3'.trans ((q2.mono (K' := fun q => q < w.heap.size) fun q _ h3 => by omega).below s3'.size), s4, s5⟩)
                      clear s1 s1' s2 s3 s3' s4 s5 hrow hkp hsz hT hrL
                      go_wp2_with (go_at_call 11; refine Calls.mono hgv ?_; rintro e w3 ⟨rfl, q1, q2, q3⟩)
                      go_roundw
                      case rel => exact ⟨i + 1, L, by go_num, by omega, HN.out w3 q1 q2⟩
                      case measure => simp [intOf]; omega
        · have hL := hfi.len
          go_upto_region 6 with fail
          go_cut [51] from 44 to 51 (fun s w' => s = .bool false ∧ w' = wr)
          case first =>
            by_cases h6 : i < zs.length
            · have t1 : (i : Int) < (zs.length : Int) := by omega
              have t2 : ¬ (i : Int) < 60 := by omega
              go_wp2
              go_meet
              case rel => exact ⟨rfl, rfl⟩
            · have t1 : ¬ (i : Int) < (zs.length : Int) := by omega
              go_wp2
              go_meet
              case rel => exact ⟨rfl, rfl⟩
          case rest =>
            obtain ⟨rfl, rfl⟩ := hcut
            have HC : Hid (∀ j (hj : j < L.length), wc.cell? ⟨g, j, none⟩ = some (.bool L[j])) := fun j hj => hfi.row.cell hj
            have hfr := free_any wc b L hfi.sp
            have HB : Hid (Below w.heap.size w wc) := hfi.old
            clear hfi hlt HI hi60
            go_wp2_with fail
            go_loop [20, 21] (fun v x => ∃ j : Nat, v = .int .i64 (((L.take j).count false : Nat) : Int) ∧ x = .int .i64 j ∧ j ≤ N) (fun _ x => N - (intOf x).toNat)
            case atStart => exact ⟨0, rfl, rfl, Nat.zero_le _⟩
            case round =>
              obtain ⟨j, rfl, rfl, hj⟩ := hrel
              by_cases hjl : j < N
              · have hjI : (j : Int) < (N : Int) := by omega
                have hjL : j < L.length := by omega
                have cg := HC.out j hjL
                have hst := cnt_step hjL
                have hcl : (L.take j).count false ≤ j := Nat.le_trans List.count_le_length (by simp; omega)
                obtain ⟨q, hq⟩ : ∃ q, q = (L.take j).count false := ⟨_, rfl⟩
                rw [← hq] at hst hcl ⊢
                cases hx : L[j] with
                | true =>
                  rw [hx] at cg hst
                  have HS : Hid ((L.take (j + 1)).count false = q) := (by simp at hst; exact hst)
                  clear hst hx hq
                  go_wp2
                  go_round
                  case rel => exact ⟨j + 1, by rw [HS.out], by go_num, by omega⟩
                  case measure => simp [intOf]; omega
                | false =>
                  rw [hx] at cg hst
                  have HS : Hid ((L.take (j + 1)).count false = q + 1) := (by simp at hst; exact hst)
                  clear hst hx hq
                  go_wp2
                  go_round
                  case rel => exact ⟨j + 1, by rw [HS.out]; go_num, by go_num, by omega⟩
                  case measure => simp [intOf]; omega
              · obtain rfl : j = N := by omega
                have hjI : ¬ (j : Int) < (j : Int) := by omega
                have hta : L.take j = L := by rw [← hL]; exact List.take_length
                rw [hta]
                clear hta
                go_wp2_with (first
                  | (go_at_call 17; refine Calls.mono hfr ?_; rintro e w3 ⟨rfl, b3⟩)
                  | (go_at_call 8; refine Calls.mono (awake_any _) ?_; rintro e w4 ⟨rfl, b4⟩))
                go_ret
                have k3 := HB.out.trans (b3.mono HB.out.size)
                exact ⟨rfl, k3.trans (b4.mono k3.size)⟩
end Go.Proofs.Ythbgbehmknnohaa
