/-
  Crash by its contract.
-/
import Derived.Test.YtpmjkgpmidejoaaRun07
import Derived.Test.YtpmjkgpmidejoaaRun03
import Derived.Test.YtpmjkgpmidejoaaRun24
namespace Go.Proofs.Ytpmjkgpmidejoaa
open Go.RowKit

/-- A slice of bools that came in. -/
def Bools (w : World) (a : Option Addr) (l : List Bool) : Prop :=
  l = [] ∨ ∃ b off, a = some ⟨b, off, none⟩ ∧ b < w.heap.size ∧ ∀ j (h : j < l.length), w.cell? ⟨b, off + j, none⟩ = some (.bool l[j])
theorem Bools.turn {w w' : World} {a : Option Addr} {l : List Bool} {F : Nat → Prop} (h : Bools w a l) (ht : Turn F w w') (hF : ∀ ad, a = some ad → ¬ F ad.block) : Bools w' a l := by
  rcases h with rfl | ⟨b, off, rfl, hb', hc⟩
  · exact .inl rfl
  · refine .inr ⟨b, off, rfl, by have := ht.size; omega, fun j hj => ?_⟩
    rw [World.cell?_of_block (w := w) (a := ⟨b, off + j, none⟩) (ht.block b hb' (hF _ rfl))]
    exact hc j hj

theorem crash_mem {wr w2 w3 : World} {d : Nat} {lv sv cv nv : Value} {N : D} (hV : DevV wr d lv sv cv N) (hb : Below wr.heap.size wr w2) (ho : w2.ownsRow wr.heap.size 9 1 nv N.L.length (scs N.L)) (h3 : w3.heap[d]? = some (.cells #[lv, nv, .slice none 0 0, .int .i64 0, .int .i64 0] 82 (0, 0))) (hoth : ∀ k, k ≠ d → w3.heap[k]? = w2.heap[k]?) :
    DevV w3 d lv nv (.slice none 0 0) { L := N.L, S := N.L, C := [], st := 0, k := 0 } := by
  have kd : d < wr.heap.size := (Array.getElem?_eq_some_iff.1 hV.blk).1
  have kl : ∀ j, lv.ownBlock = some j → j < wr.heap.size := fun j hj => (World.ownsRow.lt hV.lr j hj).2
  have kn : ∀ j, nv.ownBlock = some j → wr.heap.size ≤ j := fun j hj => (World.ownsRow.lt ho j hj).1
  refine ⟨h3, ?_, ?_, World.ownsRow_nil _ 0 109 2, ?_, ?_, ?_⟩
  · exact owns_other hV.lr fun j hj => by rw [hoth j (hV.dl j hj).1, hb.block j (kl j hj)]
  · refine owns_other (owns_base (base' := 0) ho fun j _ => Nat.zero_le _) fun j hj => hoth j ?_
    have := kn j hj
    omega
  · intro g hg
    refine ⟨(hV.dl g hg).1, ?_, by simp [Value.ownBlock]⟩
    intro e
    have := kn g e
    have := kl g hg
    omega
  · intro g hg
    refine ⟨?_, by simp [Value.ownBlock]⟩
    have := kn g hg
    omega
  · intro g hg
    simp [Value.ownBlock] at hg

set_option maxHeartbeats 4000000 in
theorem crash_any (d : Nat) (a : Option Addr) (keep : List Bool) (cap : Nat) (w : World) (F : Nat → Prop) (M : D) (h : Dev w F d M) (hb : Bools w a keep) (hab : 0 < keep.length → ∀ ad, a = some ad → ¬ F ad.block) (hC : M.C.length ≤ 100000) :
    Calls Try.prog 19 #[.pointer (some ⟨d, 0, none⟩), .slice a keep.length cap] w fun e w' => e = .returned (.tuple #[]) ∧ Dev w' (Grow F w w') d (M.crash keep) ∧ Turn F w w' := by
  have hok := h.1
  obtain ⟨gl, cl, gs, cs, ca, cc, hV, hF, hcs, hcl⟩ := h.open
  have b2 := cell_blk hV.blk 2
  simp only [List.getElem?_toArray] at b2
  have HD : Hid (Dev w F d M) := h
  have HV := (show Hid (DevV w d (.slice (some ⟨gl, 0, none⟩) M.L.length cl) (.slice (some ⟨gs, 0, none⟩) M.S.length cs) (.slice ca M.C.length cc) M) from hV)
  have HF := (show Hid _ from hF)
  have HB : Hid (Bools w a keep) := hb
  have HAB := (show Hid (0 < keep.length → ∀ ad, a = some ad → ¬ F ad.block) from hab)
  clear h hV hF hb hab
  go_enter Try.func19, Try.ntmps19
  go_wp2
  go_loopw [11] (fun i wr => ∃ k : Nat, k ≤ M.C.length ∧ i = .int .i64 k ∧ DevV wr d (.slice (some ⟨gl, 0, none⟩) M.L.length cl) (.slice (some ⟨gs, 0, none⟩) M.S.length cs) (.slice ca M.C.length cc) { M with L := app M.L (kept keep (M.C.take k)) } ∧ Turn F w wr)
    (fun i _ => M.C.length - (intOf i).toNat)
  case atStart => exact ⟨0, Nat.zero_le _, rfl, HV.out, Turn.refl _ _⟩
  case round =>
    obtain ⟨k, hk, rfl, hV, hT⟩ := hrel
    clear b2
    by_cases hlt : k < M.C.length
    · obtain ⟨gc, cc', hce, hcc, _, _⟩ := owns_head hV.cr (by show 0 < M.C.length; omega)
      simp only [Value.slice.injEq] at hce
      obtain ⟨rfl, _, rfl⟩ := hce
      have ha := owns_cell hV.cr (ccs_get hlt).1
      have hb := owns_cell hV.cr (ccs_get hlt).2
      obtain ⟨s, b, hp⟩ : ∃ s b, M.C[k] = (s, b) := ⟨_, _, rfl⟩
      simp only [hp] at ha hb
      have hlL : (app M.L (kept keep (M.C.take k))).length = M.L.length := app_length _ _
      have hsec : s < M.L.length := hok.sec (s, b) (by rw [← hp]; exact List.getElem_mem _)
      have hlr := hV.lr
      simp only [hlL] at hlr
      obtain ⟨ot, hl⟩ : ∃ ot, wr.cell? ⟨gl, s, none⟩ = some (.string ot) := ⟨_, owns_cell hlr (scs_get (l := app M.L (kept keep (M.C.take k))) (j := s) (by rw [hlL]; exact hsec))⟩
      have hfl := owns_frozen hlr s
      have b0 := cell_blk hV.blk 0
      simp only [List.getElem?_toArray] at b0
      have hki : (k : Int) < (M.C.length : Int) := by omega
      have hpi : (s : Int) < (M.L.length : Int) := by omega
      obtain ⟨W, hW⟩ : ∃ W, W = wr.alloc (.cells #[.int .i64 (s : Int), .string b] 109) := ⟨_, rfl⟩
      have hn := heap_alloc_new wr (.cells #[.int .i64 (s : Int), .string b] 109)
      rw [← hW] at hn
      have n0 := cell_blk hn 0
      have n1 := cell_blk hn 1
      simp only [List.getElem?_toArray] at n0 n1
      have x0 : W.cell? ⟨d, 0, none⟩ = some (.slice (some ⟨gl, 0, none⟩) M.L.length cl) := by rw [hW]; exact Lib.cell?_alloc_some _ b0
      have x1 : W.cell? ⟨gl, s, none⟩ = some (.string ot) := by rw [hW]; exact Lib.cell?_alloc_some _ hl
      have x2 : W.frozen? ⟨gl, s, none⟩ = false := by
        rw [hW, World.frozen?_of_block (w := wr) (a := ⟨gl, s, none⟩) (Below.heap_alloc _ _ _ (World.block_lt_of_cell? _ _ hl))]
        exact hfl
      have hbk : Bools wr a keep := by
        rcases Nat.eq_zero_or_pos keep.length with h0 | h0
        · exact .inl (List.eq_nil_of_length_eq_zero h0)
        · exact HB.out.turn hT (HAB.out h0)
      have HV2 := (show Hid (DevV wr d (.slice (some ⟨gl, 0, none⟩) M.L.length cl) (.slice (some ⟨gs, 0, none⟩) M.S.length cs) (.slice (some ⟨gc, 0, none⟩) M.C.length cc) { M with L := app M.L (kept keep (M.C.take k)) }) from hV)
      have HP := (show Hid _ from hp)
      have HSEC := (show Hid _ from hsec)
      have HW := (show Hid (W = wr.alloc (.cells #[.int .i64 (s : Int), .string b] 109)) from hW)
      have HT : Hid (Turn F w wr) := hT
      have HLL := (show Hid ((app M.L (kept keep (M.C.take k))).length = M.L.length) from hlL)
      clear hV hp hsec hlL hlr HV HD hl hfl b0 hn hT HB HAB
      by_cases hkk : k < keep.length
      · rcases hbk with rfl | ⟨kb, ko, rfl, hkb, hkc⟩
        · simp at hkk
        · have hkcell := hkc k hkk
          have hWk : (wr.alloc (.cells #[.int .i64 (s : Int), .string b] 109)).cell? ⟨kb, ko + k, none⟩ = some (.bool keep[k]) := Lib.cell?_alloc_some _ hkcell
          have hkki : (k : Int) < (keep.length : Int) := by omega
          have hkd : keep.getD k false = keep[k] := by simp [List.getD, hkk]
          cases hbv : keep[k] with
          | true =>
            rw [hbv] at hkd hkcell hWk
            have HKD := (show Hid _ from hkd)
            clear hkd hkc hbv hkb
            go_wp2
            rw [← hW]
            clear hW ha hb hWk hkcell
            go_region
            go_wp2
            go_roundw
            case rel =>
              refine ⟨k + 1, by omega, by go_num, ?_, ?_⟩
              · have := DevV.setL (w' := (W.setCell ⟨gl, s, none⟩ (.string b)).drew) (i := s) (b := b) HV2.out HLL.out (by rw [HW.out]; exact alloc_set _ _)
                rw [kept_take_yes hlt HKD.out, app_snoc, HP.out]
                exact this
              · rw [HW.out]
                exact ((HT.out.alloc _).setCell (HF.out gl (.inr (.inl rfl))) _).drew
            case measure => simp [intOf]; omega
          | false =>
            rw [hbv] at hkd hkcell hWk
            have HKD := (show Hid _ from hkd)
            clear hkd hkc hbv hkb
            go_wp2
            go_roundw
            case rel =>
              refine ⟨k + 1, by omega, by go_num, ?_, HT.out.alloc _⟩
              rw [kept_take_no hlt HKD.out]
              exact HV2.out.kept fun k hk => Below.heap_alloc _ _ _ hk
            case measure => simp [intOf]; omega
      · have hkki : ¬ (k : Int) < (keep.length : Int) := by omega
        have hkd : keep.getD k false = false := by
          rw [List.getD, List.getElem?_eq_none (by omega)]
          rfl
        have HKD := (show Hid _ from hkd)
        clear hkd hbk
        go_wp2
        go_roundw
        case rel =>
          refine ⟨k + 1, by omega, by go_num, ?_, HT.out.alloc _⟩
          rw [kept_take_no hlt HKD.out]
          exact HV2.out.kept fun k hk => Below.heap_alloc _ _ _ hk
        case measure => simp [intOf]; omega
    · obtain rfl : k = M.C.length := by omega
      have hlL : (app M.L (kept keep M.C)).length = M.L.length := app_length _ _
      rw [List.take_length] at hV
      have hlr := hV.lr
      simp only [hlL] at hlr
      have b0 := cell_blk hV.blk 0
      have b1 := cell_blk hV.blk 1
      have f1 := frozen_blk hV.blk 1
      simp only [List.getElem?_toArray] at b0 b1
      have HCL := (show Hid _ from cloneS_any gl M.L.length cl (app M.L (kept keep M.C)) wr hlr hok.top)
      have HV2 := (show Hid (DevV wr d (.slice (some ⟨gl, 0, none⟩) M.L.length cl) (.slice (some ⟨gs, 0, none⟩) M.S.length cs) (.slice ca M.C.length cc) { M with L := app M.L (kept keep M.C) }) from hV)
      have HT : Hid (Turn F w wr) := hT
      clear hV hlr HV HB HAB hT
      go_wp2_with fail
      refine Calls.mono HCL.out ?_
      rintro e w2 ⟨v', rfl, ho, hb⟩
      clear HCL
      have hsz0 := hb.size
      obtain ⟨gn, cn, rfl, _, hgn, hgn2⟩ := owns_head ho hok.pos
      have hV2 : DevV w2 d _ _ _ _ := HV2.out.kept fun k hk => hb.block k hk
      have c1 := cell_blk hV2.blk 1
      have c2 := cell_blk hV2.blk 2
      have c3 := cell_blk hV2.blk 3
      have c4 := cell_blk hV2.blk 4
      have g1 := frozen_blk hV2.blk 1
      have g2 := frozen_blk hV2.blk 2
      have g3 := frozen_blk hV2.blk 3
      have g4 := frozen_blk hV2.blk 4
      simp only [List.getElem?_toArray] at c1 c2 c3 c4
      have HV3 := (show Hid _ from hV2)
      have HO := (show Hid _ from ho)
      have HBL : Hid (Below wr.heap.size wr w2) := hb
      clear hV2 ho hb b0 b1 f1
      go_wp2
      refine bodyPost_end (results_none rfl _ _ _) rfl ?_
      have hV := HV2.out
      have kd : d < wr.heap.size := (Array.getElem?_eq_some_iff.1 hV.blk).1
      have kl : gl < wr.heap.size := (World.ownsRow.lt hV.lr gl rfl).2
      have hsz := HBL.out.size
      have hsz2 := HT.out.size
      have hFd := HF.out d (.inl rfl)
      have hFl := HF.out gl (.inr (.inl rfl))
      have hok2 := hok.crash keep
      refine ⟨rfl, ⟨hok2, ?_, .slice (some ⟨gl, 0, none⟩) M.L.length cl, .slice (some ⟨gn, 0, none⟩) M.L.length cn, .slice none 0 0, ?_, ?_⟩, ?_⟩
      · intro k hk
        rcases hk with hk | hk
        · have := HD.out.2.1 k hk
          simp [World.setCell]
          omega
        · exact hk.2
      · refine crash_mem (w2 := w2) hV HBL.out (by rw [hlL]; exact HO.out) ?_ ?_
        · rw [set_blk (set_blk (set_blk (set_blk HV3.out.blk 1 _) 2 _) 3 _) 4 _]
          rfl
        · intro k hk
          rw [Below.heap_setCell _ _ _ _ hk, Below.heap_setCell _ _ _ _ hk, Below.heap_setCell _ _ _ _ hk, Below.heap_setCell _ _ _ _ hk]
      · intro k hk
        rcases hk with hk | hk | hk | hk
        · exact .inl (by rw [hk]; exact hFd)
        · obtain rfl : gl = k := by simpa [Value.ownBlock] using hk
          exact .inl hFl
        · obtain rfl : gn = k := by simpa [Value.ownBlock] using hk
          exact .inr ⟨by omega, by simp [World.setCell]; omega⟩
        · simp [Value.ownBlock] at hk
      · exact ((((HT.out.trans' (Turn.of_below HBL.out)).setCell hFd _).setCell hFd _).setCell hFd _).setCell hFd _
end Go.Proofs.Ytpmjkgpmidejoaa
/-
  Bools that came in, told by a list.
-/
namespace Go.Proofs.Ytpmjkgpmidejoaa
open Go.ChangeShapes Go.WideShapes Go.ChangeAt Go.RowKit

theorem bools_of {W : World} {x : Addr} {len cap : Nat} {B : Nat → Bool} (hl : len ≤ cap) (hcell : ∀ i, i < cap → W.cell? (x.add i) = some (.bool (B i))) :
    ∃ l : List Bool, l.length = len ∧ Bools W (some x) l := by
  refine ⟨(List.range len).map B, by simp, ?_⟩
  by_cases h0 : len = 0
  · subst h0
    exact .inl rfl
  · obtain ⟨b, off, spot⟩ := x
    have hc0 := hcell 0 (by omega)
    have hspot : spot = none := by simpa [Addr.add] using World.cell?_spot hc0
    subst hspot
    refine .inr ⟨b, off, rfl, ?_, fun j hj => ?_⟩
    · have := block_lt_of_cell hc0
      simpa [Addr.add] using this
    · have hj' : j < len := by simpa using hj
      have := hcell j (by omega)
      rw [Addr.add_lit] at this
      rw [this]
      simp

end Go.Proofs.Ytpmjkgpmidejoaa
