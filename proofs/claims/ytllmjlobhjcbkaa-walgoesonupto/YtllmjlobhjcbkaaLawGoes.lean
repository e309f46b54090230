/-
  WalGoesOn by its walk.
-/
import Derived.Test.YtllmjlobhjcbkaaGoesN
import Derived.Test.YtllmjlobhjcbkaaLawCounts
namespace Go.Proofs.Ytllmjlobhjcbkaa
open Go.RowKit

def IntsR (w : World) (a : Option Addr) (l : List Int) : Prop :=
  l = [] ∨ ∃ b off, a = some ⟨b, off, none⟩ ∧ b < w.heap.size ∧ ∀ j (h : j < l.length), w.cell? ⟨b, off + j, none⟩ = some (.int .i64 l[j]) ∧ l[j] ≤ 9223372036854775807

set_option maxHeartbeats 8000000 in
set_option maxRecDepth 100000 in
theorem goes_walk (A : Option Addr) (LL : List (List ByteArray)) (C : Nat) (fa : Option Addr) (fz : List Int) (fc : Nat) (ka : Option Addr) (keep : List Bool) (kc : Nat) (w : World) (hR : Rfs w A LL) (hT : ∀ L ∈ LL, tot L ≤ 8388608) (hF : IntsR w fa fz) (hK : Bools w ka keep) :
    Calls Try.prog 4 #[.slice A LL.length C, .slice fa fz.length fc, .slice ka keep.length kc] w fun e w' => e = .returned (.bool true) ∧ Below w.heap.size w w' := by
  have hnew := new_ok 48 w (by omega) (by omega)
  have HR : Hid (Rfs w A LL) := hR
  have HT : Hid (∀ L ∈ LL, tot L ≤ 8388608) := hT
  have HF : Hid (IntsR w fa fz) := hF
  have HK : Hid (Bools w ka keep) := hK
  clear hR hT hF hK
  go_enter Try.func4, Try.ntmps4
  go_wp2_with fail
  refine Calls.mono hnew ?_
  rintro e w1 ⟨d, rfl, hD1, hb1⟩
  clear hnew
  have hcf : CF w w1 d none 48 (G.new 4 40 1) (G.new 4 40 1) [] := ⟨⟨_, _, hD1, fun k hk => hk.1, fun b e => by simp at e, new_firm (by omega) (by omega) (by omega) (by omega), by simp [D.new]⟩, hb1⟩
  have HCF : Hid (CF w w1 d none 48 (G.new 4 40 1) (G.new 4 40 1) []) := hcf
  clear hD1 hb1 hcf
  go_upto_region 4 with fail
  go_wp2
  go_loopw [9, 10] (fun v i wr => ∃ (k : Nat) (g : G) (fs : List (List ByteArray)), k ≤ LL.length ∧ k ≤ 12 ∧ i = .int .i64 k ∧ CF w wr d v.ownBlock 48 (G.new 4 40 1) g fs ∧ Done w wr v fs ∧ fs.length ≤ k ∧ ∀ L ∈ fs, L.length ≤ 8388608) (fun _ i _ => LL.length - (intOf i).toNat)
  case atStart => exact ⟨0, _, [], Nat.zero_le _, Nat.zero_le _, rfl, HCF.out, Done.nil _ _, Nat.le_refl _, fun L hL => by simp at hL⟩
  case round =>
    obtain ⟨k, g, fs, hk, hk12, rfl, hcf, hdo, hfl, hfi⟩ := hrel
    obtain ⟨da, dc, rfl⟩ := hdo.shape
    clear HCF
    by_cases hgo : k < LL.length ∧ k < 12
    · obtain ⟨hlt, hlt12⟩ := hgo
      obtain ⟨b, off, rfl, hbl, hcs⟩ := HR.out.resolve_left (by rintro rfl; simp at hlt)
      obtain ⟨x, cx, hcw, hst⟩ := hcs k hlt
      have hto := HT.out LL[k] (List.getElem_mem hlt)
      obtain ⟨L, hLe⟩ : ∃ L, L = LL[k] := ⟨_, rfl⟩
      rw [← hLe] at hcw hst hto
      have k1 : (k : Int) < (LL.length : Int) := by omega
      have k2 : (k : Int) < 12 := by omega
      have hop := hcf.open (by omega) (by omega) (by omega)
      have hop2 : Calls Try.prog 11 #[.pointer (some ⟨d, 0, none⟩), .int .i64 4, .int .i64 40, .int .u64 1] wr fun e w' => ∃ l a c, e = .returned (.tuple #[.pointer (some ⟨l, 0, none⟩), .slice a fs.length c, .int .i64 0]) ∧ CL w w' d l (Value.slice da fs.length dc).ownBlock 48 (G.new 4 40 1) g fs ∧ Rfs w' a fs ∧ Done w w' (.slice da fs.length dc) fs := by
        refine Calls.mono hop ?_
        rintro e w' ⟨l, a, c, rfl, q1, q2, q3, _⟩
        exact ⟨l, a, c, rfl, q1, q2, hdo.other (fun b e => q3.block b (hdo.lt b e).2)⟩
      have HE : Hid (fs.length ≤ k ∧ ∀ L ∈ fs, L.length ≤ 8388608) := ⟨hfl, hfi⟩
      have HLS : Hid (Strs w x L ∧ tot L ≤ 8388608 ∧ w.cell? ⟨b, off + k, none⟩ = some (.slice x L.length cx) ∧ b < w.heap.size) := ⟨hst, hto, hcw, hbl⟩
      clear hcf hdo hfl hfi hop hst hto hcw hbl hcs hLe
      go_upto_region 9 with (go_at_call 11; (with_reducible refine Calls.mono hop2 ?_); rintro e w2 ⟨l, oa, oc, rfl, hcl2, hrf2, hdo2⟩)
      have hfr := frames_same oa da fs oc dc w2 (by have := HE.out.1; omega) (fun Z hZ => by have := HE.out.2 Z hZ; omega) hrf2 (hdo2.rfs hcl2.bel)
      have hnx : g.nx = fs.length := by
        obtain ⟨_, _, _, _, _, _, _, _, _, _, q, _⟩ := hcl2.dev
        have := q.held.ch.mono
        simp only [G.new] at this
        omega
      have HN : Hid (∀ w3, Below w2.heap.size w2 w3 → (Calls Try.prog 18 #[.pointer (some ⟨l, 0, none⟩)] w3 fun e w' => e = .returned (.int .u64 (fs.length : Int)) ∧ w3 = w') ∧ CL w w3 d l (Value.slice da fs.length dc).ownBlock 48 (G.new 4 40 1) g fs ∧ Done w w3 (.slice da fs.length dc) fs) := (by
        intro w3 hb3
        have h3 := hcl2.below hb3
        have := next_any l d g w3 h3.log
        rw [hnx] at this
        exact ⟨this, h3, hdo2.other (fun b e => hb3.block b (hdo2.lt b e).2)⟩)
      have HNX : Hid (g.nx = fs.length) := hnx
      have hfk : fs.length ≤ 12 := by have := HE.out.1; omega
      clear hcl2 hrf2 hdo2 hop2 hnx
      go_upto_region 11 with (first
        | (go_at_call 17; (with_reducible refine Calls.mono hfr ?_); rintro e w3 ⟨rfl, hb3⟩; have hn23 := (HN.out w3 hb3).1; have HC3 : Hid (CL w w3 d l (Value.slice da fs.length dc).ownBlock 48 (G.new 4 40 1) g fs ∧ Done w w3 (.slice da fs.length dc) fs) := (HN.out w3 hb3).2)
        | (go_at_call 18; (with_reducible refine Calls.mono hn23 ?_); rintro e q ⟨rfl, rfl⟩))
      clear hfr hn23 HN hb3
      have HRD : Hid (∀ w4, CL w w4 d l (Value.slice da fs.length dc).ownBlock 48 (G.new 4 40 1) g fs → Done w w4 (.slice da fs.length dc) fs → w4.cell? ⟨b, off + k, none⟩ = some (.slice x L.length cx) ∧ Calls Try.prog 13 #[.pointer (some ⟨l, 0, none⟩), .slice x L.length cx] w4 fun e w5 => ∃ ev : Int, e = .returned (.int .i64 ev) ∧
          Calls Try.prog 16 #[.pointer (some ⟨d, 0, none⟩), .slice ka keep.length kc] w5 fun e w6 => e = .returned (.tuple #[]) ∧
            Calls Try.prog 11 #[.pointer (some ⟨d, 0, none⟩), .int .i64 4, .int .i64 40, .int .u64 1] w6 fun e w7 => ∃ l' a' c' g' fs', e = .returned (.tuple #[.pointer (some ⟨l', 0, none⟩), .slice a' fs'.length c', .int .i64 0]) ∧ Out g fs L ev g' fs' ∧
              CF w w7 d (Value.slice da fs.length dc).ownBlock 48 (G.new 4 40 1) g' fs' ∧ Done w w7 (.slice da fs.length dc) fs ∧ ∃ base, RfsN w7 base a' fs' ∧ ∀ b, (Value.slice da fs.length dc).ownBlock = some b → b < base) := (by
        intro w4 hcl hdo
        refine ⟨(hcl.bel.cell (p := ⟨b, off + k, none⟩) HLS.out.2.2.2).trans HLS.out.2.2.1, ?_⟩
        refine Calls.mono (hcl.round (by rw [HNX.out]; omega) cx HLS.out.1 (by have := HLS.out.2.1; omega) kc HK.out (by omega) (by omega) (by omega)) ?_
        rintro e w5 ⟨ev, rfl, h5⟩
        refine ⟨ev, rfl, Calls.mono h5 ?_⟩
        rintro e w6 ⟨rfl, h6⟩
        refine ⟨rfl, Calls.mono h6 ?_⟩
        rintro e w7 ⟨l', a', c', g', fs', rfl, ho, hcf, hkk, hbase⟩
        exact ⟨l', a', c', g', fs', rfl, ho, hcf, hdo.other hkk, hbase⟩)
      by_cases hfz : k < fz.length
      · obtain ⟨fb, fo, rfl, hfbl, hfcs⟩ := HF.out.resolve_left (by rintro rfl; simp at hfz)
        have k3 : (k : Int) < (fz.length : Int) := by omega
        have hfc3 : w3.cell? ⟨fb, fo + k, none⟩ = some (.int .i64 fz[k]) := (HC3.out.1.bel.cell (p := ⟨fb, fo + k, none⟩) hfbl).trans (hfcs k hfz).1
        have hfu := HC3.out.1.fuse fz[k] (hfcs k hfz).2
        have HFU : Hid (∀ q, (∀ b, (Value.slice da fs.length dc).ownBlock = some b → q.heap[b]? = w3.heap[b]?) → Done w q (.slice da fs.length dc) fs) := fun q hq => HC3.out.2.other hq
        obtain ⟨fv, hfv⟩ : ∃ fv, fv = fz[k] := ⟨_, rfl⟩
        rw [← hfv] at hfc3 hfu
        clear hfcs hfv HC3
        go_upto_region 13 with (go_at_call 12; (with_reducible refine Calls.mono hfu ?_); rintro e w4 ⟨rfl, hcl4, hk4⟩)
        have HCQ : Hid (CL w w4 d l (Value.slice da fs.length dc).ownBlock 48 (G.new 4 40 1) g fs ∧ Done w w4 (.slice da fs.length dc) fs) := ⟨hcl4, HFU.out w4 hk4⟩
        clear hcl4 hk4 hfu hfc3 HFU
        obtain ⟨hcell4, hap⟩ := HRD.out w4 HCQ.out.1 HCQ.out.2
        clear HRD HCQ
        go_upto_region 16 with (first
          | (go_at_call 13; (with_reducible refine Calls.mono hap ?_); rintro e w5 ⟨ev, rfl, h5⟩)
          | (go_at_call 16; (with_reducible refine Calls.mono h5 ?_); rintro e w6 ⟨rfl, h6⟩)
          | (go_at_call 11; (with_reducible refine Calls.mono h6 ?_); rintro e w7 ⟨l7, a7, c7, g7, fs7, rfl, ho7, hcf7, hdo7, base, hrn, hkb⟩))
        clear hap h5 h6 hcell4
        rcases ho7 with ⟨rfl, rfl, rfl⟩ | ⟨rfl, rfl, rfl⟩ | ⟨rfl, ⟨rfl, rfl⟩ | ⟨rfl, rfl⟩⟩
        · have hl1 : (fs ++ [L]).length = fs.length + 1 := by simp
          rw [hl1]
          have HL1 : Hid ((fs ++ [L]).length = fs.length + 1) := hl1
          have hdoA : Done w (w7.alloc (.cells #[.slice x L.length cx] 34)) (.slice da fs.length dc) fs := hdo7.other (fun b e => Below.heap_alloc _ _ _ (hdo7.lt b e).2)
          have hcfA : CF w (w7.alloc (.cells #[.slice x L.length cx] 34)) d (Value.slice da fs.length dc).ownBlock 48 (G.new 4 40 1) (g.pass L) (fs ++ [L]) := hcf7.below ((Below.refl _ _).alloc (Nat.le_refl _) _)
          have hcA : (w7.alloc (.cells #[.slice x L.length cx] 34)).cell? ⟨w7.heap.size, 0, none⟩ = some (.slice x L.length cx) := cell_blk (heap_alloc_new w7 _) 0
          have hcell7 : w7.cell? ⟨b, off + k, none⟩ = some (.slice x L.length cx) := (hcf7.bel.cell (p := ⟨b, off + k, none⟩) HLS.out.2.2.2).trans HLS.out.2.2.1
          have hrnA := hrn.below (w' := w7.alloc (.cells #[.slice x L.length cx] 34)) ((Below.refl _ _).alloc (Nat.le_refl _) _)
          have HA : Hid (Done w (w7.alloc (.cells #[.slice x L.length cx] 34)) (.slice da fs.length dc) fs) := hdoA
          have HB : Hid (CF w (w7.alloc (.cells #[.slice x L.length cx] 34)) d (Value.slice da fs.length dc).ownBlock 48 (G.new 4 40 1) (g.pass L) (fs ++ [L])) := hcfA
          have HCA : Hid ((w7.alloc (.cells #[.slice x L.length cx] 34)).cell? ⟨w7.heap.size, 0, none⟩ = some (.slice x L.length cx)) := hcA
          have HRN : Hid (RfsN (w7.alloc (.cells #[.slice x L.length cx] 34)) base a7 (fs ++ [L]) ∧ ∀ b, (Value.slice da fs.length dc).ownBlock = some b → b < base) := ⟨hrnA, hkb⟩
          have hbq : (((fs.length : Int) + 1) == (fs.length : Int)) = false := by rw [beq_eq_false_iff_ne]; omega
          clear hdoA hcfA hcA hrnA hcf7 hdo7 hrn hkb hl1
          go_upto_region 20 with (at_builtin; refine wpList_append_done (w0 := w) rfl (.tmp 129) (.tmp 134) rfl _ fs rfl HA.out w7.heap.size x L cx rfl HCA.out HLS.out.1 (by omega) HB.out.bel.size ?_; rintro v8 w8 hdo8 hg8 hnew8; obtain ⟨a8, c8, rfl⟩ := hdo8.shape)
          have hcf8 := HB.out.grown hg8 (fun b e => (HA.out.lt b e).1) hnew8 (fun b e => (hdo8.lt b e).2)
          have hrn8 := HRN.out.1.grown hg8 HRN.out.2
          have hfiT : ∀ M ∈ fs ++ [L], M.length ≤ 8388608 := by
            intro M hM
            rcases List.mem_append.1 hM with hM | hM
            · exact HE.out.2 M hM
            · simp at hM
              subst hM
              have := len_tot M
              have := HLS.out.2.1
              omega
          have hfr := frames_same a7 a8 (fs ++ [L]) c7 c8 w8 (by rw [HL1.out]; omega) (fun Z hZ => by have := hfiT Z hZ; omega) hrn8.rfs (hdo8.rfs hcf8.bel)
          have HCt : Hid (∀ w9, Below w8.heap.size w8 w9 → CF w w9 d (Value.slice a8 (fs ++ [L]).length c8).ownBlock 48 (G.new 4 40 1) (g.pass L) (fs ++ [L]) ∧ Done w w9 (.slice a8 (fs ++ [L]).length c8) (fs ++ [L])) := fun w9 hb9 => ⟨hcf8.below hb9, hdo8.other (fun b e => hb9.block b (hdo8.lt b e).2)⟩
          have HFT : Hid (∀ M ∈ fs ++ [L], M.length ≤ 8388608) := hfiT
          rw [HL1.out] at hfr HCt
          clear hcf8 hdo8 hg8 hnew8 hrn8 hfiT HA HB HCA HRN
          go_wp2_with (go_at_call 17; (with_reducible refine Calls.mono hfr ?_); rintro e w9 ⟨rfl, hb9⟩)
          go_roundw
          case rel => exact ⟨k + 1, g.pass L, fs ++ [L], by omega, by omega, by go_num, (HCt.out w9 hb9).1, (HCt.out w9 hb9).2, by have := HE.out.1; rw [HL1.out]; omega, HFT.out⟩
          case measure => simp [intOf]; omega
        · have hcell7 : w7.cell? ⟨b, off + k, none⟩ = some (.slice x L.length cx) := (hcf7.bel.cell (p := ⟨b, off + k, none⟩) HLS.out.2.2.2).trans HLS.out.2.2.1
          have hfr := frames_same a7 da fs c7 dc w7 (by omega) (fun Z hZ => by have := HE.out.2 Z hZ; omega) hrn.rfs (hdo7.rfs hcf7.bel)
          have HCt : Hid (∀ w9, Below w7.heap.size w7 w9 → CF w w9 d (Value.slice da fs.length dc).ownBlock 48 (G.new 4 40 1) g fs ∧ Done w w9 (.slice da fs.length dc) fs) := fun w9 hb9 => ⟨hcf7.below hb9, hdo7.other (fun b e => hb9.block b (hdo7.lt b e).2)⟩
          clear hcf7 hdo7 hrn hkb
          go_wp2_with (go_at_call 17; (with_reducible refine Calls.mono hfr ?_); rintro e w9 ⟨rfl, hb9⟩)
          go_roundw
          case rel => exact ⟨k + 1, g, fs, by omega, by omega, by go_num, (HCt.out w9 hb9).1, (HCt.out w9 hb9).2, by have := HE.out.1; omega, HE.out.2⟩
          case measure => simp [intOf]; omega
        · have hl1 : (fs ++ [L]).length = fs.length + 1 := by simp
          rw [hl1]
          have HL1 : Hid ((fs ++ [L]).length = fs.length + 1) := hl1
          have hdoA : Done w (w7.alloc (.cells #[.slice x L.length cx] 34)) (.slice da fs.length dc) fs := hdo7.other (fun b e => Below.heap_alloc _ _ _ (hdo7.lt b e).2)
          have hcfA : CF w (w7.alloc (.cells #[.slice x L.length cx] 34)) d (Value.slice da fs.length dc).ownBlock 48 (G.new 4 40 1) (g.pass L) (fs ++ [L]) := hcf7.below ((Below.refl _ _).alloc (Nat.le_refl _) _)
          have hcA : (w7.alloc (.cells #[.slice x L.length cx] 34)).cell? ⟨w7.heap.size, 0, none⟩ = some (.slice x L.length cx) := cell_blk (heap_alloc_new w7 _) 0
          have hcell7 : w7.cell? ⟨b, off + k, none⟩ = some (.slice x L.length cx) := (hcf7.bel.cell (p := ⟨b, off + k, none⟩) HLS.out.2.2.2).trans HLS.out.2.2.1
          have hrnA := hrn.below (w' := w7.alloc (.cells #[.slice x L.length cx] 34)) ((Below.refl _ _).alloc (Nat.le_refl _) _)
          have HA : Hid (Done w (w7.alloc (.cells #[.slice x L.length cx] 34)) (.slice da fs.length dc) fs) := hdoA
          have HB : Hid (CF w (w7.alloc (.cells #[.slice x L.length cx] 34)) d (Value.slice da fs.length dc).ownBlock 48 (G.new 4 40 1) (g.pass L) (fs ++ [L])) := hcfA
          have HCA : Hid ((w7.alloc (.cells #[.slice x L.length cx] 34)).cell? ⟨w7.heap.size, 0, none⟩ = some (.slice x L.length cx)) := hcA
          have HRN : Hid (RfsN (w7.alloc (.cells #[.slice x L.length cx] 34)) base a7 (fs ++ [L]) ∧ ∀ b, (Value.slice da fs.length dc).ownBlock = some b → b < base) := ⟨hrnA, hkb⟩
          have hbq : (((fs.length : Int) + 1) == (fs.length : Int)) = false := by rw [beq_eq_false_iff_ne]; omega
          clear hdoA hcfA hcA hrnA hcf7 hdo7 hrn hkb hl1
          go_upto_region 20 with (at_builtin; refine wpList_append_done (w0 := w) rfl (.tmp 129) (.tmp 134) rfl _ fs rfl HA.out w7.heap.size x L cx rfl HCA.out HLS.out.1 (by omega) HB.out.bel.size ?_; rintro v8 w8 hdo8 hg8 hnew8; obtain ⟨a8, c8, rfl⟩ := hdo8.shape)
          have hcf8 := HB.out.grown hg8 (fun b e => (HA.out.lt b e).1) hnew8 (fun b e => (hdo8.lt b e).2)
          have hrn8 := HRN.out.1.grown hg8 HRN.out.2
          have hfiT : ∀ M ∈ fs ++ [L], M.length ≤ 8388608 := by
            intro M hM
            rcases List.mem_append.1 hM with hM | hM
            · exact HE.out.2 M hM
            · simp at hM
              subst hM
              have := len_tot M
              have := HLS.out.2.1
              omega
          have hfr := frames_same a7 a8 (fs ++ [L]) c7 c8 w8 (by rw [HL1.out]; omega) (fun Z hZ => by have := hfiT Z hZ; omega) hrn8.rfs (hdo8.rfs hcf8.bel)
          have HCt : Hid (∀ w9, Below w8.heap.size w8 w9 → CF w w9 d (Value.slice a8 (fs ++ [L]).length c8).ownBlock 48 (G.new 4 40 1) (g.pass L) (fs ++ [L]) ∧ Done w w9 (.slice a8 (fs ++ [L]).length c8) (fs ++ [L])) := fun w9 hb9 => ⟨hcf8.below hb9, hdo8.other (fun b e => hb9.block b (hdo8.lt b e).2)⟩
          have HFT : Hid (∀ M ∈ fs ++ [L], M.length ≤ 8388608) := hfiT
          rw [HL1.out] at hfr HCt
          clear hcf8 hdo8 hg8 hnew8 hrn8 hfiT HA HB HCA HRN
          go_wp2_with (go_at_call 17; (with_reducible refine Calls.mono hfr ?_); rintro e w9 ⟨rfl, hb9⟩)
          go_roundw
          case rel => exact ⟨k + 1, g.pass L, fs ++ [L], by omega, by omega, by go_num, (HCt.out w9 hb9).1, (HCt.out w9 hb9).2, by have := HE.out.1; rw [HL1.out]; omega, HFT.out⟩
          case measure => simp [intOf]; omega
        · have hcell7 : w7.cell? ⟨b, off + k, none⟩ = some (.slice x L.length cx) := (hcf7.bel.cell (p := ⟨b, off + k, none⟩) HLS.out.2.2.2).trans HLS.out.2.2.1
          have hfr := frames_same a7 da fs c7 dc w7 (by omega) (fun Z hZ => by have := HE.out.2 Z hZ; omega) hrn.rfs (hdo7.rfs hcf7.bel)
          have HCt : Hid (∀ w9, Below w7.heap.size w7 w9 → CF w w9 d (Value.slice da fs.length dc).ownBlock 48 (G.new 4 40 1) g fs ∧ Done w w9 (.slice da fs.length dc) fs) := fun w9 hb9 => ⟨hcf7.below hb9, hdo7.other (fun b e => hb9.block b (hdo7.lt b e).2)⟩
          clear hcf7 hdo7 hrn hkb
          go_wp2_with (go_at_call 17; (with_reducible refine Calls.mono hfr ?_); rintro e w9 ⟨rfl, hb9⟩)
          go_roundw
          case rel => exact ⟨k + 1, g, fs, by omega, by omega, by go_num, (HCt.out w9 hb9).1, (HCt.out w9 hb9).2, by have := HE.out.1; omega, HE.out.2⟩
          case measure => simp [intOf]; omega
      · have k3 : ¬ (k : Int) < (fz.length : Int) := by omega
        have HCQ := HC3
        clear HC3
        go_upto_region 13 with fail
        obtain ⟨hcell4, hap⟩ := HRD.out w3 HCQ.out.1 HCQ.out.2
        clear HRD HCQ
        go_upto_region 16 with (first
          | (go_at_call 13; (with_reducible refine Calls.mono hap ?_); rintro e w5 ⟨ev, rfl, h5⟩)
          | (go_at_call 16; (with_reducible refine Calls.mono h5 ?_); rintro e w6 ⟨rfl, h6⟩)
          | (go_at_call 11; (with_reducible refine Calls.mono h6 ?_); rintro e w7 ⟨l7, a7, c7, g7, fs7, rfl, ho7, hcf7, hdo7, base, hrn, hkb⟩))
        clear hap h5 h6 hcell4
        rcases ho7 with ⟨rfl, rfl, rfl⟩ | ⟨rfl, rfl, rfl⟩ | ⟨rfl, ⟨rfl, rfl⟩ | ⟨rfl, rfl⟩⟩
        · have hl1 : (fs ++ [L]).length = fs.length + 1 := by simp
          rw [hl1]
          have HL1 : Hid ((fs ++ [L]).length = fs.length + 1) := hl1
          have hdoA : Done w (w7.alloc (.cells #[.slice x L.length cx] 34)) (.slice da fs.length dc) fs := hdo7.other (fun b e => Below.heap_alloc _ _ _ (hdo7.lt b e).2)
          have hcfA : CF w (w7.alloc (.cells #[.slice x L.length cx] 34)) d (Value.slice da fs.length dc).ownBlock 48 (G.new 4 40 1) (g.pass L) (fs ++ [L]) := hcf7.below ((Below.refl _ _).alloc (Nat.le_refl _) _)
          have hcA : (w7.alloc (.cells #[.slice x L.length cx] 34)).cell? ⟨w7.heap.size, 0, none⟩ = some (.slice x L.length cx) := cell_blk (heap_alloc_new w7 _) 0
          have hcell7 : w7.cell? ⟨b, off + k, none⟩ = some (.slice x L.length cx) := (hcf7.bel.cell (p := ⟨b, off + k, none⟩) HLS.out.2.2.2).trans HLS.out.2.2.1
          have hrnA := hrn.below (w' := w7.alloc (.cells #[.slice x L.length cx] 34)) ((Below.refl _ _).alloc (Nat.le_refl _) _)
          have HA : Hid (Done w (w7.alloc (.cells #[.slice x L.length cx] 34)) (.slice da fs.length dc) fs) := hdoA
          have HB : Hid (CF w (w7.alloc (.cells #[.slice x L.length cx] 34)) d (Value.slice da fs.length dc).ownBlock 48 (G.new 4 40 1) (g.pass L) (fs ++ [L])) := hcfA
          have HCA : Hid ((w7.alloc (.cells #[.slice x L.length cx] 34)).cell? ⟨w7.heap.size, 0, none⟩ = some (.slice x L.length cx)) := hcA
          have HRN : Hid (RfsN (w7.alloc (.cells #[.slice x L.length cx] 34)) base a7 (fs ++ [L]) ∧ ∀ b, (Value.slice da fs.length dc).ownBlock = some b → b < base) := ⟨hrnA, hkb⟩
          have hbq : (((fs.length : Int) + 1) == (fs.length : Int)) = false := by rw [beq_eq_false_iff_ne]; omega
          clear hdoA hcfA hcA hrnA hcf7 hdo7 hrn hkb hl1
          go_upto_region 20 with (at_builtin; refine wpList_append_done (w0 := w) rfl (.tmp 129) (.tmp 134) rfl _ fs rfl HA.out w7.heap.size x L cx rfl HCA.out HLS.out.1 (by omega) HB.out.bel.size ?_; rintro v8 w8 hdo8 hg8 hnew8; obtain ⟨a8, c8, rfl⟩ := hdo8.shape)
          have hcf8 := HB.out.grown hg8 (fun b e => (HA.out.lt b e).1) hnew8 (fun b e => (hdo8.lt b e).2)
          have hrn8 := HRN.out.1.grown hg8 HRN.out.2
          have hfiT : ∀ M ∈ fs ++ [L], M.length ≤ 8388608 := by
            intro M hM
            rcases List.mem_append.1 hM with hM | hM
            · exact HE.out.2 M hM
            · simp at hM
              subst hM
              have := len_tot M
              have := HLS.out.2.1
              omega
          have hfr := frames_same a7 a8 (fs ++ [L]) c7 c8 w8 (by rw [HL1.out]; omega) (fun Z hZ => by have := hfiT Z hZ; omega) hrn8.rfs (hdo8.rfs hcf8.bel)
          have HCt : Hid (∀ w9, Below w8.heap.size w8 w9 → CF w w9 d (Value.slice a8 (fs ++ [L]).length c8).ownBlock 48 (G.new 4 40 1) (g.pass L) (fs ++ [L]) ∧ Done w w9 (.slice a8 (fs ++ [L]).length c8) (fs ++ [L])) := fun w9 hb9 => ⟨hcf8.below hb9, hdo8.other (fun b e => hb9.block b (hdo8.lt b e).2)⟩
          have HFT : Hid (∀ M ∈ fs ++ [L], M.length ≤ 8388608) := hfiT
          rw [HL1.out] at hfr HCt
          clear hcf8 hdo8 hg8 hnew8 hrn8 hfiT HA HB HCA HRN
          go_wp2_with (go_at_call 17; (with_reducible refine Calls.mono hfr ?_); rintro e w9 ⟨rfl, hb9⟩)
          go_roundw
          case rel => exact ⟨k + 1, g.pass L, fs ++ [L], by omega, by omega, by go_num, (HCt.out w9 hb9).1, (HCt.out w9 hb9).2, by have := HE.out.1; rw [HL1.out]; omega, HFT.out⟩
          case measure => simp [intOf]; omega
        · have hcell7 : w7.cell? ⟨b, off + k, none⟩ = some (.slice x L.length cx) := (hcf7.bel.cell (p := ⟨b, off + k, none⟩) HLS.out.2.2.2).trans HLS.out.2.2.1
          have hfr := frames_same a7 da fs c7 dc w7 (by omega) (fun Z hZ => by have := HE.out.2 Z hZ; omega) hrn.rfs (hdo7.rfs hcf7.bel)
          have HCt : Hid (∀ w9, Below w7.heap.size w7 w9 → CF w w9 d (Value.slice da fs.length dc).ownBlock 48 (G.new 4 40 1) g fs ∧ Done w w9 (.slice da fs.length dc) fs) := fun w9 hb9 => ⟨hcf7.below hb9, hdo7.other (fun b e => hb9.block b (hdo7.lt b e).2)⟩
          clear hcf7 hdo7 hrn hkb
          go_wp2_with (go_at_call 17; (with_reducible refine Calls.mono hfr ?_); rintro e w9 ⟨rfl, hb9⟩)
          go_roundw
          case rel => exact ⟨k + 1, g, fs, by omega, by omega, by go_num, (HCt.out w9 hb9).1, (HCt.out w9 hb9).2, by have := HE.out.1; omega, HE.out.2⟩
          case measure => simp [intOf]; omega
        · have hl1 : (fs ++ [L]).length = fs.length + 1 := by simp
          rw [hl1]
          have HL1 : Hid ((fs ++ [L]).length = fs.length + 1) := hl1
          have hdoA : Done w (w7.alloc (.cells #[.slice x L.length cx] 34)) (.slice da fs.length dc) fs := hdo7.other (fun b e => Below.heap_alloc _ _ _ (hdo7.lt b e).2)
          have hcfA : CF w (w7.alloc (.cells #[.slice x L.length cx] 34)) d (Value.slice da fs.length dc).ownBlock 48 (G.new 4 40 1) (g.pass L) (fs ++ [L]) := hcf7.below ((Below.refl _ _).alloc (Nat.le_refl _) _)
          have hcA : (w7.alloc (.cells #[.slice x L.length cx] 34)).cell? ⟨w7.heap.size, 0, none⟩ = some (.slice x L.length cx) := cell_blk (heap_alloc_new w7 _) 0
          have hcell7 : w7.cell? ⟨b, off + k, none⟩ = some (.slice x L.length cx) := (hcf7.bel.cell (p := ⟨b, off + k, none⟩) HLS.out.2.2.2).trans HLS.out.2.2.1
          have hrnA := hrn.below (w' := w7.alloc (.cells #[.slice x L.length cx] 34)) ((Below.refl _ _).alloc (Nat.le_refl _) _)
          have HA : Hid (Done w (w7.alloc (.cells #[.slice x L.length cx] 34)) (.slice da fs.length dc) fs) := hdoA
          have HB : Hid (CF w (w7.alloc (.cells #[.slice x L.length cx] 34)) d (Value.slice da fs.length dc).ownBlock 48 (G.new 4 40 1) (g.pass L) (fs ++ [L])) := hcfA
          have HCA : Hid ((w7.alloc (.cells #[.slice x L.length cx] 34)).cell? ⟨w7.heap.size, 0, none⟩ = some (.slice x L.length cx)) := hcA
          have HRN : Hid (RfsN (w7.alloc (.cells #[.slice x L.length cx] 34)) base a7 (fs ++ [L]) ∧ ∀ b, (Value.slice da fs.length dc).ownBlock = some b → b < base) := ⟨hrnA, hkb⟩
          have hbq : (((fs.length : Int) + 1) == (fs.length : Int)) = false := by rw [beq_eq_false_iff_ne]; omega
          clear hdoA hcfA hcA hrnA hcf7 hdo7 hrn hkb hl1
          go_upto_region 20 with (at_builtin; refine wpList_append_done (w0 := w) rfl (.tmp 129) (.tmp 134) rfl _ fs rfl HA.out w7.heap.size x L cx rfl HCA.out HLS.out.1 (by omega) HB.out.bel.size ?_; rintro v8 w8 hdo8 hg8 hnew8; obtain ⟨a8, c8, rfl⟩ := hdo8.shape)
          have hcf8 := HB.out.grown hg8 (fun b e => (HA.out.lt b e).1) hnew8 (fun b e => (hdo8.lt b e).2)
          have hrn8 := HRN.out.1.grown hg8 HRN.out.2
          have hfiT : ∀ M ∈ fs ++ [L], M.length ≤ 8388608 := by
            intro M hM
            rcases List.mem_append.1 hM with hM | hM
            · exact HE.out.2 M hM
            · simp at hM
              subst hM
              have := len_tot M
              have := HLS.out.2.1
              omega
          have hfr := frames_same a7 a8 (fs ++ [L]) c7 c8 w8 (by rw [HL1.out]; omega) (fun Z hZ => by have := hfiT Z hZ; omega) hrn8.rfs (hdo8.rfs hcf8.bel)
          have HCt : Hid (∀ w9, Below w8.heap.size w8 w9 → CF w w9 d (Value.slice a8 (fs ++ [L]).length c8).ownBlock 48 (G.new 4 40 1) (g.pass L) (fs ++ [L]) ∧ Done w w9 (.slice a8 (fs ++ [L]).length c8) (fs ++ [L])) := fun w9 hb9 => ⟨hcf8.below hb9, hdo8.other (fun b e => hb9.block b (hdo8.lt b e).2)⟩
          have HFT : Hid (∀ M ∈ fs ++ [L], M.length ≤ 8388608) := hfiT
          rw [HL1.out] at hfr HCt
          clear hcf8 hdo8 hg8 hnew8 hrn8 hfiT HA HB HCA HRN
          go_wp2_with (go_at_call 17; (with_reducible refine Calls.mono hfr ?_); rintro e w9 ⟨rfl, hb9⟩)
          go_roundw
          case rel => exact ⟨k + 1, g.pass L, fs ++ [L], by omega, by omega, by go_num, (HCt.out w9 hb9).1, (HCt.out w9 hb9).2, by have := HE.out.1; rw [HL1.out]; omega, HFT.out⟩
          case measure => simp [intOf]; omega
        · have hcell7 : w7.cell? ⟨b, off + k, none⟩ = some (.slice x L.length cx) := (hcf7.bel.cell (p := ⟨b, off + k, none⟩) HLS.out.2.2.2).trans HLS.out.2.2.1
          have hfr := frames_same a7 da fs c7 dc w7 (by omega) (fun Z hZ => by have := HE.out.2 Z hZ; omega) hrn.rfs (hdo7.rfs hcf7.bel)
          have HCt : Hid (∀ w9, Below w7.heap.size w7 w9 → CF w w9 d (Value.slice da fs.length dc).ownBlock 48 (G.new 4 40 1) g fs ∧ Done w w9 (.slice da fs.length dc) fs) := fun w9 hb9 => ⟨hcf7.below hb9, hdo7.other (fun b e => hb9.block b (hdo7.lt b e).2)⟩
          clear hcf7 hdo7 hrn hkb
          go_wp2_with (go_at_call 17; (with_reducible refine Calls.mono hfr ?_); rintro e w9 ⟨rfl, hb9⟩)
          go_roundw
          case rel => exact ⟨k + 1, g, fs, by omega, by omega, by go_num, (HCt.out w9 hb9).1, (HCt.out w9 hb9).2, by have := HE.out.1; omega, HE.out.2⟩
          case measure => simp [intOf]; omega
    · have hend : ¬ ((k : Int) < (LL.length : Int) ∧ (k : Int) < 12) := by omega
      have haw := awake_any wr
      have HB : Hid (Below w.heap.size w wr) := hcf.bel
      clear hcf hdo hfl hfi
      by_cases hk1 : k < LL.length
      · have k1 : (k : Int) < (LL.length : Int) := by omega
        have k2 : ¬ (k : Int) < 12 := by omega
        clear hend hgo
        go_wp2_with (go_at_call 9; refine Calls.mono haw ?_; rintro e w2 ⟨rfl, hb2⟩)
        go_ret
        exact ⟨rfl, HB.out.trans (hb2.mono HB.out.size)⟩
      · have k1 : ¬ (k : Int) < (LL.length : Int) := by omega
        clear hend hgo
        go_wp2_with (go_at_call 9; refine Calls.mono haw ?_; rintro e w2 ⟨rfl, hb2⟩)
        go_ret
        exact ⟨rfl, HB.out.trans (hb2.mono HB.out.size)⟩
end Go.Proofs.Ytllmjlobhjcbkaa
