/-
  WalLasts by its walk.
-/
import Derived.Test.YtllmjlobhjcbkaaLasts
import Derived.Test.YtllmjlobhjcbkaaLawCounts
namespace Go.Proofs.Ytllmjlobhjcbkaa
open Go.RowKit

set_option maxHeartbeats 8000000 in
set_option maxRecDepth 100000 in
theorem lasts_walk (A : Option Addr) (LL : List (List ByteArray)) (C : Nat) (fz : Int) (ka : Option Addr) (keep : List Bool) (kc : Nat) (n : Int) (w : World) (hR : Rfs w A LL) (hT : ∀ L ∈ LL, tot L ≤ 8388608) (hfz : fz ≤ 9223372036854775807) (hK : Bools w ka keep) :
    Calls Try.prog 3 #[.slice A LL.length C, .int .i64 fz, .slice ka keep.length kc, .int .i64 n] w fun e w' => e = .returned (.bool true) ∧ Below w.heap.size w w' := by
  have haw := awake_any w
  have HR : Hid (Rfs w A LL) := hR
  have HT : Hid (∀ L ∈ LL, tot L ≤ 8388608) := hT
  have HK : Hid (Bools w ka keep) := hK
  clear hR hT hK
  by_cases h1 : n < 1
  · go_enter Try.func3, Try.ntmps3
    go_wp2_with (go_at_call 9; refine Calls.mono haw ?_; rintro e w2 ⟨rfl, hb2⟩)
    go_ret
    exact ⟨rfl, hb2⟩
  by_cases h2 : 40 < n
  · go_enter Try.func3, Try.ntmps3
    go_wp2_with (go_at_call 9; refine Calls.mono haw ?_; rintro e w2 ⟨rfl, hb2⟩)
    go_ret
    exact ⟨rfl, hb2⟩
  by_cases h3 : 20 < LL.length
  · have h3i : (20 : Int) < (LL.length : Int) := by omega
    go_enter Try.func3, Try.ntmps3
    go_wp2_with (go_at_call 9; refine Calls.mono haw ?_; rintro e w2 ⟨rfl, hb2⟩)
    go_ret
    exact ⟨rfl, hb2⟩
  obtain ⟨N, rfl⟩ : ∃ N : Nat, n = (N : Int) := ⟨n.toNat, by omega⟩
  have hN1 : 1 ≤ N := by omega
  have hN40 : N ≤ 40 := by omega
  have hl20 : LL.length ≤ 20 := by omega
  have hnew := new_ok N w (by omega) (by omega)
  clear h1 h2 h3 haw
  go_enter Try.func3, Try.ntmps3
  go_wp2_with fail
  refine Calls.mono hnew ?_
  rintro e w1 ⟨d, rfl, hD1, hb1⟩
  have hcf : CF w w1 d none N (G.new 0 N 5) (G.new 0 N 5) [] := ⟨⟨_, _, hD1, fun k hk => hk.1, fun b e => by simp at e, new_firm (by omega) (by omega) (by omega) (by omega), by simp [D.new]⟩, hb1⟩
  have hop := hcf.open (by omega) (by omega) (by omega)
  clear hnew hD1 hb1 hcf
  go_wp2_with fail
  refine Calls.mono hop ?_
  rintro e w2 ⟨l, a2, c2, rfl, hcl2, _, _, _⟩
  have hfu := hcl2.fuse fz hfz
  clear hop hcl2
  go_wp2_with (go_at_call 12; refine Calls.mono hfu ?_; rintro e w3 ⟨rfl, hcl3, _⟩)
  clear hfu
  go_loopw [14, 15, 16, 17] (fun v wy fl i wr => ∃ (k : Nat) (g : G) (fs : List (List ByteArray)), k ≤ LL.length ∧ i = .int .i64 k ∧ Done w wr v fs ∧ fs.length ≤ k ∧ (∀ L ∈ fs, L.length ≤ 8388608) ∧
      ((fl = .bool false ∧ CL w wr d l v.ownBlock N (G.new 0 N 5) g fs) ∨ (fl = .bool true ∧ ∃ (x : Option Addr) (L : List ByteArray) (cx : Nat), wy = .slice x L.length cx ∧ Strs w x L ∧ tot L ≤ 8388608 ∧ CX w wr d v.ownBlock N (G.new 0 N 5) (fun g' fs' => (g' = g.pass L ∧ fs' = fs ++ [L]) ∨ (g = g' ∧ fs = fs'))))) (fun _ _ _ i _ => LL.length - (intOf i).toNat)
  case atStart => exact ⟨0, _, [], Nat.zero_le _, rfl, Done.nil _ _, Nat.le_refl _, fun L hL => by simp at hL, .inl ⟨rfl, hcl3⟩⟩
  case round =>
    obtain ⟨k, g, fs, hk, rfl, hdo, hfl, hfi, hmode⟩ := hrel
    obtain ⟨da, dc, rfl⟩ := hdo.shape
    clear hcl3
    have HE : Hid (fs.length ≤ k ∧ ∀ L ∈ fs, L.length ≤ 8388608) := ⟨hfl, hfi⟩
    have hfk : fs.length ≤ 20 := by omega
    clear hfl hfi
    rcases hmode with ⟨rfl, hcl⟩ | ⟨rfl, x, L, cx, rfl, hst, hto, hX⟩
    · by_cases hlt : k < LL.length
      · obtain ⟨b, off, rfl, hbl, hcs⟩ := HR.out.resolve_left (by rintro rfl; simp at hlt)
        obtain ⟨x, cx, hcw, hst⟩ := hcs k hlt
        have hto := HT.out LL[k] (List.getElem_mem hlt)
        obtain ⟨L, hLe⟩ : ∃ L, L = LL[k] := ⟨_, rfl⟩
        rw [← hLe] at hcw hst hto
        have k1 : (k : Int) < (LL.length : Int) := by omega
        have hnx : g.nx = fs.length := by
          obtain ⟨_, _, _, _, _, _, _, _, _, _, q, _⟩ := hcl.dev
          have := q.held.ch.mono
          simp only [G.new] at this
          omega
        have hcell : wr.cell? ⟨b, off + k, none⟩ = some (.slice x L.length cx) := (hcl.bel.cell (p := ⟨b, off + k, none⟩) hbl).trans hcw
        have hap := hcl.append3 (by omega) cx hst (by omega)
        have HLS : Hid (Strs w x L ∧ tot L ≤ 8388608 ∧ w.cell? ⟨b, off + k, none⟩ = some (.slice x L.length cx) ∧ b < w.heap.size) := ⟨hst, hto, hcw, hbl⟩
        have HDO : Hid (∀ q, (∀ b, (Value.slice da fs.length dc).ownBlock = some b → q.heap[b]? = wr.heap[b]?) → Done w q (.slice da fs.length dc) fs) := fun q hq => hdo.other hq
        clear hcl hdo hnx hst hto hcw hbl hcs hLe
        go_wp2_with fail
        refine Calls.mono hap ?_
        rintro e w4 ⟨hk4, ⟨rfl, hcl4⟩ | ⟨rfl, hcl4, hful⟩ | ⟨rfl, hX4⟩⟩
        · have hdo4 := HDO.out w4 hk4
          have hcell4 : w4.cell? ⟨b, off + k, none⟩ = some (.slice x L.length cx) := (hcl4.bel.cell (p := ⟨b, off + k, none⟩) HLS.out.2.2.2).trans HLS.out.2.2.1
          have hdoA : Done w (w4.alloc (.cells #[.slice x L.length cx] 34)) (.slice da fs.length dc) fs := hdo4.other (fun b e => Below.heap_alloc _ _ _ (hdo4.lt b e).2)
          have hclA : CL w (w4.alloc (.cells #[.slice x L.length cx] 34)) d l (Value.slice da fs.length dc).ownBlock N (G.new 0 N 5) (g.pass L) (fs ++ [L]) := hcl4.below ((Below.refl _ _).alloc (Nat.le_refl _) _)
          have hcA : (w4.alloc (.cells #[.slice x L.length cx] 34)).cell? ⟨w4.heap.size, 0, none⟩ = some (.slice x L.length cx) := cell_blk (heap_alloc_new w4 _) 0
          have HA : Hid (Done w (w4.alloc (.cells #[.slice x L.length cx] 34)) (.slice da fs.length dc) fs) := hdoA
          have HB : Hid (CL w (w4.alloc (.cells #[.slice x L.length cx] 34)) d l (Value.slice da fs.length dc).ownBlock N (G.new 0 N 5) (g.pass L) (fs ++ [L])) := hclA
          have HCA : Hid ((w4.alloc (.cells #[.slice x L.length cx] 34)).cell? ⟨w4.heap.size, 0, none⟩ = some (.slice x L.length cx)) := hcA
          clear hap hk4 hcl4 hdo4 hdoA hclA hcA hcell
          go_wp2_with (at_builtin; refine wpList_append_done (w0 := w) rfl (.tmp 81) (.tmp 86) rfl _ fs rfl HA.out w4.heap.size x L cx rfl HCA.out HLS.out.1 (by omega) HB.out.bel.size ?_; rintro v5 w5 hdo5 hg5 hnew5; obtain ⟨a5, c5, rfl⟩ := hdo5.shape)
          have hl1 : (fs ++ [L]).length = fs.length + 1 := by simp
          rw [hl1] at hdo5 hnew5
          have hcl5 := HB.out.grown hg5 (fun b e => (HA.out.lt b e).1) hnew5 (fun b e => (hdo5.lt b e).2)
          have hfiT : ∀ M ∈ fs ++ [L], M.length ≤ 8388608 := by
            intro M hM
            rcases List.mem_append.1 hM with hM | hM
            · exact HE.out.2 M hM
            · simp at hM
              subst hM
              have := len_tot M
              have := HLS.out.2.1
              omega
          go_roundw
          case rel => exact ⟨k + 1, g.pass L, fs ++ [L], by omega, by go_num, hdo5, by have := HE.out.1; simp; omega, hfiT, .inl ⟨rfl, hcl5⟩⟩
          case measure => simp [intOf]; omega
        · have hdo4 := HDO.out w4 hk4
          have hok := (show g.Ok from by
            obtain ⟨_, _, _, _, _, _, _, _, _, _, q, _⟩ := hcl4.dev
            exact q.held.ok)
          have hrm := room_any l d g w4.drew hcl4.log hok
          have hne := need_any x L cx w4.drew.drew (by have := HLS.out.2.1; omega) (HLS.out.1.below (hcl4.bel.drew.drew) (Nat.le_refl _))
          have hcell4 : w4.drew.cell? ⟨b, off + k, none⟩ = some (.slice x L.length cx) := (hcl4.bel.cell (p := ⟨b, off + k, none⟩) HLS.out.2.2.2).trans HLS.out.2.2.1
          obtain ⟨rm, hrmE⟩ : ∃ rm, rm = g.fin - g.at' := ⟨_, rfl⟩
          obtain ⟨nd, hnd⟩ : ∃ nd, nd = needN L := ⟨_, rfl⟩
          rw [← hrmE] at hrm
          rw [← hnd] at hne
          have hlti : ¬ (nd : Int) ≤ (rm : Int) := by omega
          have HC5 : Hid (CL w w4.drew.drew d l (Value.slice da fs.length dc).ownBlock N (G.new 0 N 5) g fs ∧ Done w w4.drew.drew (.slice da fs.length dc) fs) := ⟨hcl4.below ((Below.refl _ w4).drew.drew), hdo4.other (fun _ _ => rfl)⟩
          clear hap hk4 hcl4 hdo4 hcell hful hrmE hnd hok
          go_wp2
          go_region_held3 (fun w' => w'.cell? ⟨b, off + k, none⟩ = some (.slice x L.length cx)) (go_keep)
            (first
              | (go_at_call 14; (with_reducible refine Calls.mono hrm ?_); rintro e q ⟨rfl, rfl⟩; have s0 : w4.drew.drew.cell? ⟨b, off + k, none⟩ = some (.slice x L.length cx) := hcell4)
              | (go_at_call 15; (with_reducible refine Calls.mono hne ?_); rintro e q ⟨rfl, rfl⟩))
          go_wp2
          go_roundw
          case rel => exact ⟨k + 1, g, fs, by omega, by go_num, HC5.out.2, by have := HE.out.1; omega, HE.out.2, .inl ⟨rfl, HC5.out.1⟩⟩
          case measure => simp [intOf]; omega
        · have hdo4 := HDO.out w4 hk4
          have hcell4 : w4.cell? ⟨b, off + k, none⟩ = some (.slice x L.length cx) := (hX4.bel.cell (p := ⟨b, off + k, none⟩) HLS.out.2.2.2).trans HLS.out.2.2.1
          have hX5 := hX4.mono (q := fun g' fs' => (g' = g.pass L ∧ fs' = fs ++ [L]) ∨ (g = g' ∧ fs = fs')) (fun _ _ h => h.imp id fun y => ⟨y.1.symm, y.2.symm⟩)
          clear hap hk4 hX4 hcell
          go_wp2
          go_roundw
          case rel => exact ⟨k + 1, g, fs, by omega, by go_num, hdo4, by have := HE.out.1; omega, HE.out.2, .inr ⟨rfl, x, L, cx, rfl, HLS.out.1, HLS.out.2.1, hX5⟩⟩
          case measure => simp [intOf]; omega
      · have k1 : ¬ (k : Int) < (LL.length : Int) := by omega
        have hX := (hcl.done).mono (q := fun g' fs' => g = g' ∧ fs = fs') (fun _ _ h => ⟨h.1.symm, h.2.symm⟩)
        clear hcl
        have hfin := hX.finish kc HK.out (by omega) (by omega) (by omega)
        clear hX
        go_wp2_with (first
          | (go_at_call 16; (with_reducible refine Calls.mono hfin ?_); rintro e w5 ⟨rfl, g7, fs7, hgood, hop5⟩)
          | (go_at_call 11; (with_reducible refine Calls.mono hop5 ?_); rintro e w6 ⟨l6, a6, c6, rfl, hop6⟩)
          | (go_at_call 11; (with_reducible refine Calls.mono hop6 ?_); rintro e w7 ⟨l7, a7, c7, rfl, hcf7, hkk7, hr7, base, hrn7, hkb⟩))
        have hdo7 := hdo.other hkk7
        clear hfin hop5 hop6 hkk7 hdo
        obtain ⟨rfl, rfl⟩ := hgood
        have hfr := frames_same a6 a7 fs c6 c7 w7 (by omega) (fun Z hZ => by have := HE.out.2 Z hZ; omega) hrn7.rfs hr7
        refine Calls.mono hfr ?_
        rintro e w8 ⟨rfl, hb8⟩
        clear hfr
        have hfd := frames_same a6 da fs c6 dc w8 (by omega) (fun Z hZ => by have := HE.out.2 Z hZ; omega) (hrn7.below hb8).rfs ((hdo7.other (fun b e => hb8.block b (hdo7.lt b e).2)).rfs (hcf7.below hb8).bel)
        have HB8 : Hid (Below w.heap.size w w8) := (hcf7.below hb8).bel
        clear hcf7 hdo7 hrn7 hkb hr7 hb8
        go_wp2_with (first
          | (go_at_call 17; (with_reducible refine Calls.mono hfd ?_); rintro e w9 ⟨rfl, hb9⟩; have haw := awake_any w9)
          | (go_at_call 9; (with_reducible refine Calls.mono haw ?_); rintro e w10 ⟨rfl, hb10⟩))
        go_ret
        have hB9 := HB8.out.trans (hb9.mono HB8.out.size)
        exact ⟨rfl, hB9.trans (hb10.mono hB9.size)⟩
    · have HLS : Hid (Strs w x L ∧ tot L ≤ 8388608) := ⟨hst, hto⟩
      clear hst hto
      by_cases hlt : k < LL.length
      · have k1 : (k : Int) < (LL.length : Int) := by omega
        have hfin := hX.finish kc HK.out (by omega) (by omega) (by omega)
        clear hX
        go_wp2_with (first
          | (go_at_call 16; (with_reducible refine Calls.mono hfin ?_); rintro e w5 ⟨rfl, g7, fs7, hgood, hop5⟩)
          | (go_at_call 11; (with_reducible refine Calls.mono hop5 ?_); rintro e w6 ⟨l6, a6, c6, rfl, hop6⟩)
          | (go_at_call 11; (with_reducible refine Calls.mono hop6 ?_); rintro e w7 ⟨l7, a7, c7, rfl, hcf7, hkk7, hr7, base, hrn7, hkb⟩))
        have hdo7 := hdo.other hkk7
        clear hfin hop5 hop6 hkk7 hdo
        rcases hgood with ⟨rfl, rfl⟩ | ⟨rfl, rfl⟩
        · have hl1 : (fs ++ [L]).length = fs.length + 1 := by simp
          have hfiT : ∀ M ∈ fs ++ [L], M.length ≤ 8388608 := by
            intro M hM
            rcases List.mem_append.1 hM with hM | hM
            · exact HE.out.2 M hM
            · simp at hM
              subst hM
              have := len_tot M
              have := HLS.out.2
              omega
          have hfr := frames_same a6 a7 (fs ++ [L]) c6 c7 w7 (by rw [hl1]; omega) (fun Z hZ => by have := hfiT Z hZ; omega) hrn7.rfs hr7
          rw [hl1] at hfr ⊢
          refine Calls.mono hfr ?_
          rintro e w8 ⟨rfl, hb8⟩
          have hdo8 : Done w w8 (.slice da fs.length dc) fs := hdo7.other (fun b e => hb8.block b (hdo7.lt b e).2)
          have hcf8 := hcf7.below hb8
          have hrn8 := hrn7.below hb8
          have hdoA : Done w (w8.alloc (.cells #[.slice x L.length cx] 34)) (.slice da fs.length dc) fs := hdo8.other (fun b e => Below.heap_alloc _ _ _ (hdo8.lt b e).2)
          have hcfA : CF w (w8.alloc (.cells #[.slice x L.length cx] 34)) d (Value.slice da fs.length dc).ownBlock N (G.new 0 N 5) (g.pass L) (fs ++ [L]) := hcf8.below ((Below.refl _ _).alloc (Nat.le_refl _) _)
          have hcA : (w8.alloc (.cells #[.slice x L.length cx] 34)).cell? ⟨w8.heap.size, 0, none⟩ = some (.slice x L.length cx) := cell_blk (heap_alloc_new w8 _) 0
          have hrnA := hrn8.below (w' := w8.alloc (.cells #[.slice x L.length cx] 34)) ((Below.refl _ _).alloc (Nat.le_refl _) _)
          have HA : Hid (Done w (w8.alloc (.cells #[.slice x L.length cx] 34)) (.slice da fs.length dc) fs) := hdoA
          have HB : Hid (CF w (w8.alloc (.cells #[.slice x L.length cx] 34)) d (Value.slice da fs.length dc).ownBlock N (G.new 0 N 5) (g.pass L) (fs ++ [L])) := hcfA
          have HCA : Hid ((w8.alloc (.cells #[.slice x L.length cx] 34)).cell? ⟨w8.heap.size, 0, none⟩ = some (.slice x L.length cx)) := hcA
          have HRN : Hid (RfsN (w8.alloc (.cells #[.slice x L.length cx] 34)) base a6 (fs ++ [L]) ∧ ∀ b, (Value.slice da fs.length dc).ownBlock = some b → b < base) := ⟨hrnA, hkb⟩
          have HL1 : Hid ((fs ++ [L]).length = fs.length + 1 ∧ ∀ M ∈ fs ++ [L], M.length ≤ 8388608) := ⟨hl1, hfiT⟩
          clear hl1 hfiT hfr hdo7 hcf7 hrn7 hkb hr7 hb8 hdo8 hcf8 hrn8 hdoA hcfA hcA hrnA
          go_upto_region 30 with (at_builtin; refine wpList_append_done (w0 := w) rfl (.tmp 136) (.tmp 138) rfl _ fs rfl HA.out w8.heap.size x L cx rfl HCA.out HLS.out.1 (by omega) HB.out.bel.size ?_; rintro v9 w9 hdo9 hg9 hnew9; obtain ⟨a9, c9, rfl⟩ := hdo9.shape)
          have hcf9 := HB.out.grown hg9 (fun b e => (HA.out.lt b e).1) hnew9 (fun b e => (hdo9.lt b e).2)
          have hrn9 := HRN.out.1.grown hg9 HRN.out.2
          have hfd := frames_same a6 a9 (fs ++ [L]) c6 c9 w9 (by rw [HL1.out.1]; omega) (fun Z hZ => by have := HL1.out.2 Z hZ; omega) hrn9.rfs (hdo9.rfs hcf9.bel)
          rw [HL1.out.1] at hfd
          have HB9 : Hid (Below w.heap.size w w9) := hcf9.bel
          clear hcf9 hdo9 hg9 hnew9 hrn9 HA HB HCA HRN
          go_wp2_with (first
            | (go_at_call 17; (with_reducible refine Calls.mono hfd ?_); rintro e w10 ⟨rfl, hb10⟩; have haw := awake_any w10)
            | (go_at_call 9; (with_reducible refine Calls.mono haw ?_); rintro e w11 ⟨rfl, hb11⟩))
          go_ret
          have hB10 := HB9.out.trans (hb10.mono HB9.out.size)
          exact ⟨rfl, hB10.trans (hb11.mono hB10.size)⟩
        · have hfr := frames_same a6 a7 fs c6 c7 w7 (by omega) (fun Z hZ => by have := HE.out.2 Z hZ; omega) hrn7.rfs hr7
          refine Calls.mono hfr ?_
          rintro e w8 ⟨rfl, hb8⟩
          have hbq : ((fs.length : Int) == (fs.length : Int) + 1) = false := by rw [beq_eq_false_iff_ne]; omega
          clear hfr
          have hfd := frames_same a6 da fs c6 dc w8 (by omega) (fun Z hZ => by have := HE.out.2 Z hZ; omega) (hrn7.below hb8).rfs ((hdo7.other (fun b e => hb8.block b (hdo7.lt b e).2)).rfs (hcf7.below hb8).bel)
          have HB8 : Hid (Below w.heap.size w w8) := (hcf7.below hb8).bel
          clear hcf7 hdo7 hrn7 hkb hr7 hb8
          go_wp2_with (first
            | (go_at_call 17; (with_reducible refine Calls.mono hfd ?_); rintro e w9 ⟨rfl, hb9⟩; have haw := awake_any w9)
            | (go_at_call 9; (with_reducible refine Calls.mono haw ?_); rintro e w10 ⟨rfl, hb10⟩))
          go_ret
          have hB9 := HB8.out.trans (hb9.mono HB8.out.size)
          exact ⟨rfl, hB9.trans (hb10.mono hB9.size)⟩
      · have k1 : ¬ (k : Int) < (LL.length : Int) := by omega
        have hfin := hX.finish kc HK.out (by omega) (by omega) (by omega)
        clear hX
        go_wp2_with (first
          | (go_at_call 16; (with_reducible refine Calls.mono hfin ?_); rintro e w5 ⟨rfl, g7, fs7, hgood, hop5⟩)
          | (go_at_call 11; (with_reducible refine Calls.mono hop5 ?_); rintro e w6 ⟨l6, a6, c6, rfl, hop6⟩)
          | (go_at_call 11; (with_reducible refine Calls.mono hop6 ?_); rintro e w7 ⟨l7, a7, c7, rfl, hcf7, hkk7, hr7, base, hrn7, hkb⟩))
        have hdo7 := hdo.other hkk7
        clear hfin hop5 hop6 hkk7 hdo
        rcases hgood with ⟨rfl, rfl⟩ | ⟨rfl, rfl⟩
        · have hl1 : (fs ++ [L]).length = fs.length + 1 := by simp
          have hfiT : ∀ M ∈ fs ++ [L], M.length ≤ 8388608 := by
            intro M hM
            rcases List.mem_append.1 hM with hM | hM
            · exact HE.out.2 M hM
            · simp at hM
              subst hM
              have := len_tot M
              have := HLS.out.2
              omega
          have hfr := frames_same a6 a7 (fs ++ [L]) c6 c7 w7 (by rw [hl1]; omega) (fun Z hZ => by have := hfiT Z hZ; omega) hrn7.rfs hr7
          rw [hl1] at hfr ⊢
          refine Calls.mono hfr ?_
          rintro e w8 ⟨rfl, hb8⟩
          have hdo8 : Done w w8 (.slice da fs.length dc) fs := hdo7.other (fun b e => hb8.block b (hdo7.lt b e).2)
          have hcf8 := hcf7.below hb8
          have hrn8 := hrn7.below hb8
          have hdoA : Done w (w8.alloc (.cells #[.slice x L.length cx] 34)) (.slice da fs.length dc) fs := hdo8.other (fun b e => Below.heap_alloc _ _ _ (hdo8.lt b e).2)
          have hcfA : CF w (w8.alloc (.cells #[.slice x L.length cx] 34)) d (Value.slice da fs.length dc).ownBlock N (G.new 0 N 5) (g.pass L) (fs ++ [L]) := hcf8.below ((Below.refl _ _).alloc (Nat.le_refl _) _)
          have hcA : (w8.alloc (.cells #[.slice x L.length cx] 34)).cell? ⟨w8.heap.size, 0, none⟩ = some (.slice x L.length cx) := cell_blk (heap_alloc_new w8 _) 0
          have hrnA := hrn8.below (w' := w8.alloc (.cells #[.slice x L.length cx] 34)) ((Below.refl _ _).alloc (Nat.le_refl _) _)
          have HA : Hid (Done w (w8.alloc (.cells #[.slice x L.length cx] 34)) (.slice da fs.length dc) fs) := hdoA
          have HB : Hid (CF w (w8.alloc (.cells #[.slice x L.length cx] 34)) d (Value.slice da fs.length dc).ownBlock N (G.new 0 N 5) (g.pass L) (fs ++ [L])) := hcfA
          have HCA : Hid ((w8.alloc (.cells #[.slice x L.length cx] 34)).cell? ⟨w8.heap.size, 0, none⟩ = some (.slice x L.length cx)) := hcA
          have HRN : Hid (RfsN (w8.alloc (.cells #[.slice x L.length cx] 34)) base a6 (fs ++ [L]) ∧ ∀ b, (Value.slice da fs.length dc).ownBlock = some b → b < base) := ⟨hrnA, hkb⟩
          have HL1 : Hid ((fs ++ [L]).length = fs.length + 1 ∧ ∀ M ∈ fs ++ [L], M.length ≤ 8388608) := ⟨hl1, hfiT⟩
          clear hl1 hfiT hfr hdo7 hcf7 hrn7 hkb hr7 hb8 hdo8 hcf8 hrn8 hdoA hcfA hcA hrnA
          go_upto_region 30 with (at_builtin; refine wpList_append_done (w0 := w) rfl (.tmp 136) (.tmp 138) rfl _ fs rfl HA.out w8.heap.size x L cx rfl HCA.out HLS.out.1 (by omega) HB.out.bel.size ?_; rintro v9 w9 hdo9 hg9 hnew9; obtain ⟨a9, c9, rfl⟩ := hdo9.shape)
          have hcf9 := HB.out.grown hg9 (fun b e => (HA.out.lt b e).1) hnew9 (fun b e => (hdo9.lt b e).2)
          have hrn9 := HRN.out.1.grown hg9 HRN.out.2
          have hfd := frames_same a6 a9 (fs ++ [L]) c6 c9 w9 (by rw [HL1.out.1]; omega) (fun Z hZ => by have := HL1.out.2 Z hZ; omega) hrn9.rfs (hdo9.rfs hcf9.bel)
          rw [HL1.out.1] at hfd
          have HB9 : Hid (Below w.heap.size w w9) := hcf9.bel
          clear hcf9 hdo9 hg9 hnew9 hrn9 HA HB HCA HRN
          go_wp2_with (first
            | (go_at_call 17; (with_reducible refine Calls.mono hfd ?_); rintro e w10 ⟨rfl, hb10⟩; have haw := awake_any w10)
            | (go_at_call 9; (with_reducible refine Calls.mono haw ?_); rintro e w11 ⟨rfl, hb11⟩))
          go_ret
          have hB10 := HB9.out.trans (hb10.mono HB9.out.size)
          exact ⟨rfl, hB10.trans (hb11.mono hB10.size)⟩
        · have hfr := frames_same a6 a7 fs c6 c7 w7 (by omega) (fun Z hZ => by have := HE.out.2 Z hZ; omega) hrn7.rfs hr7
          refine Calls.mono hfr ?_
          rintro e w8 ⟨rfl, hb8⟩
          have hbq : ((fs.length : Int) == (fs.length : Int) + 1) = false := by rw [beq_eq_false_iff_ne]; omega
          clear hfr
          have hfd := frames_same a6 da fs c6 dc w8 (by omega) (fun Z hZ => by have := HE.out.2 Z hZ; omega) (hrn7.below hb8).rfs ((hdo7.other (fun b e => hb8.block b (hdo7.lt b e).2)).rfs (hcf7.below hb8).bel)
          have HB8 : Hid (Below w.heap.size w w8) := (hcf7.below hb8).bel
          clear hcf7 hdo7 hrn7 hkb hr7 hb8
          go_wp2_with (first
            | (go_at_call 17; (with_reducible refine Calls.mono hfd ?_); rintro e w9 ⟨rfl, hb9⟩; have haw := awake_any w9)
            | (go_at_call 9; (with_reducible refine Calls.mono haw ?_); rintro e w10 ⟨rfl, hb10⟩))
          go_ret
          have hB9 := HB8.out.trans (hb9.mono HB8.out.size)
          exact ⟨rfl, hB9.trans (hb10.mono hB9.size)⟩
end Go.Proofs.Ytllmjlobhjcbkaa
