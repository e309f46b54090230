/-
  Crash by its contract.
-/
import Derived.Test.YtecljiefljgfmaaRun01
namespace Go.Proofs.Ytecljiefljgfmaa
open Go.RowKit

/-- A slice of bools that came in. -/
def Bools (w : World) (a : Option Addr) (l : List Bool) : Prop :=
  l = [] ∨ ∃ b off, a = some ⟨b, off, none⟩ ∧ b < w.heap.size ∧ ∀ j (h : j < l.length), w.cell? ⟨b, off + j, none⟩ = some (.bool l[j])
theorem Bools.turn {w w' : World} {a : Option Addr} {l : List Bool} {F : Nat → Prop} (h : Bools w a l) (ht : Turn F w w') (hF : ∀ ad, a = some ad → ¬ F ad.block) : Bools w' a l := by
  rcases h with rfl | ⟨b, off, rfl, hb', hc⟩
  · exact .inl rfl
  · refine .inr ⟨b, off, rfl, by have := ht.size; omega, fun j hj => ?_⟩
    rw [World.cell?_of_block (w := w) (a := ⟨b, off + j, none⟩) (ht.block b hb' (hF _ rfl))]
    exact hc j hj

theorem crash_mem {wr w2 w3 : World} {d : Nat} {lv sv cv nv : Value} {N : D} (hV : DevV wr d lv sv cv N) (hb : Below wr.heap.size wr w2) (ho : w2.ownsRow wr.heap.size 9 1 nv N.L.length (scs N.L)) (h3 : w3.heap[d]? = some (.cells #[lv, nv, .slice none 0 0, .int .i64 0, .int .i64 0] 84 (0, 0))) (hoth : ∀ k, k ≠ d → w3.heap[k]? = w2.heap[k]?) :
    DevV w3 d lv nv (.slice none 0 0) { L := N.L, S := N.L, C := [], st := 0, k := 0 } := by
  have kd : d < wr.heap.size := (Array.getElem?_eq_some_iff.1 hV.blk).1
  have kl : ∀ j, lv.ownBlock = some j → j < wr.heap.size := fun j hj => (World.ownsRow.lt hV.lr j hj).2
  have kn : ∀ j, nv.ownBlock = some j → wr.heap.size ≤ j := fun j hj => (World.ownsRow.lt ho j hj).1
  refine ⟨h3, ?_, ?_, World.ownsRow_nil _ 0 104 2, ?_, ?_, ?_⟩
  · exact owns_other hV.lr fun j hj => by rw [hoth j (hV.dl j hj).1, hb.block j (kl j hj)]
  · refine owns_other (owns_base (base' := 0) ho fun j _ => Nat.zero_le _) fun j hj => hoth j ?_
    have := kn j hj
    omega
  · intro g hg
    refine ⟨(hV.dl g hg).1, ?_, by simp [Value.ownBlock]⟩
    intro e
    have := kn g e
    have := kl g hg
    omega
  · intro g hg
    refine ⟨?_, by simp [Value.ownBlock]⟩
    have := kn g hg
    omega
  · intro g hg
    simp [Value.ownBlock] at hg

set_option maxHeartbeats 4000000 in
theorem crash_any (d : Nat) (a : Option Addr) (keep : List Bool) (cap : Nat) (w : World) (F : Nat → Prop) (M : D) (h : Dev w F d M) (hb : Bools w a keep) (hab : 0 < keep.length → ∀ ad, a = some ad → ¬ F ad.block) (hC : M.C.length ≤ 100000) :
    Calls Try.prog 23 #[.pointer (some ⟨d, 0, none⟩), .slice a keep.length cap] w fun e w' => e = .returned (.tuple #[]) ∧ Dev w' (Grow F w w') d (M.crash keep) ∧ Turn F w w' := by
  have hok := h.1
  obtain ⟨gl, cl, gs, cs, ca, cc, hV, hF, hcs, hcl⟩ := h.open
  have b2 := cell_blk hV.blk 2
  simp only [List.getElem?_toArray] at b2
  have HD : Hid (Dev w F d M) := h
  have HV := (show Hid (DevV w d (.slice (some ⟨gl, 0, none⟩) M.L.length cl) (.slice (some ⟨gs, 0, none⟩) M.S.length cs) (.slice ca M.C.length cc) M) from hV)
  have HF := (show Hid _ from hF)
  have HB : Hid (Bools w a keep) := hb
  have HAB := (show Hid (0 < keep.length → ∀ ad, a = some ad → ¬ F ad.block) from hab)
  clear h hV hF hb hab
  go_enter Try.func23, Try.ntmps23
  go_wp2
  go_loopw [11] (fun i wr => ∃ k : Nat, k ≤ M.C.length ∧ i = .int .i64 k ∧ DevV wr d (.slice (some ⟨gl, 0, none⟩) M.L.length cl) (.slice (some ⟨gs, 0, none⟩) M.S.length cs) (.slice ca M.C.length cc) { M with L := app M.L (kept keep (M.C.take k)) } ∧ Turn F w wr)
    (fun i _ => M.C.length - (intOf i).toNat)
  case atStart => exact ⟨0, Nat.zero_le _, rfl, HV.out, Turn.refl _ _⟩
  case round =>
    obtain ⟨k, hk, rfl, hV, hT⟩ := hrel
    clear b2
    by_cases hlt : k < M.C.length
    · obtain ⟨gc, cc', hce, hcc, _, _⟩ := owns_head hV.cr (by show 0 < M.C.length; omega)
      simp only [Value.slice.injEq] at hce
      obtain ⟨rfl, _, rfl⟩ := hce
      have ha := owns_cell hV.cr (ccs_get hlt).1
      have hb := owns_cell hV.cr (ccs_get hlt).2
      obtain ⟨s, b, hp⟩ : ∃ s b, M.C[k] = (s, b) := ⟨_, _, rfl⟩
      simp only [hp] at ha hb
      have hlL : (app M.L (kept keep (M.C.take k))).length = M.L.length := app_length _ _
      have hsec : s < M.L.length := hok.sec (s, b) (by rw [← hp]; exact List.getElem_mem _)
      have hlr := hV.lr
      simp only [hlL] at hlr
      obtain ⟨ot, hl⟩ : ∃ ot, wr.cell? ⟨gl, s, none⟩ = some (.string ot) := ⟨_, owns_cell hlr (scs_get (l := app M.L (kept keep (M.C.take k))) (j := s) (by rw [hlL]; exact hsec))⟩
      have hfl := owns_frozen hlr s
      have b0 := cell_blk hV.blk 0
      simp only [List.getElem?_toArray] at b0
      have hki : (k : Int) < (M.C.length : Int) := by omega
      have hpi : (s : Int) < (M.L.length : Int) := by omega
      obtain ⟨W, hW⟩ : ∃ W, W = wr.alloc (.cells #[.int .i64 (s : Int), .string b] 104) := ⟨_, rfl⟩
      have hn := heap_alloc_new wr (.cells #[.int .i64 (s : Int), .string b] 104)
      rw [← hW] at hn
      have n0 := cell_blk hn 0
      have n1 := cell_blk hn 1
      simp only [List.getElem?_toArray] at n0 n1
      have x0 : W.cell? ⟨d, 0, none⟩ = some (.slice (some ⟨gl, 0, none⟩) M.L.length cl) := by rw [hW]; exact Lib.cell?_alloc_some _ b0
      have x1 : W.cell? ⟨gl, s, none⟩ = some (.string ot) := by rw [hW]; exact Lib.cell?_alloc_some _ hl
      have x2 : W.frozen? ⟨gl, s, none⟩ = false := by
        rw [hW, World.frozen?_of_block (w := wr) (a := ⟨gl, s, none⟩) (Below.heap_alloc _ _ _ (World.block_lt_of_cell? _ _ hl))]
        exact hfl
      have hbk : Bools wr a keep := by
        rcases Nat.eq_zero_or_pos keep.length with h0 | h0
        · exact .inl (List.eq_nil_of_length_eq_zero h0)
        · exact HB.out.turn hT (HAB.out h0)
      have HV2 := (show Hid (DevV wr d (.slice (some ⟨gl, 0, none⟩) M.L.length cl) (.slice (some ⟨gs, 0, none⟩) M.S.length cs) (.slice (some ⟨gc, 0, none⟩) M.C.length cc) { M with L := app M.L (kept keep (M.C.take k)) }) from hV)
      have HP := (show Hid _ from hp)
      have HSEC := (show Hid _ from hsec)
      have HW := (show Hid (W = wr.alloc (.cells #[.int .i64 (s : Int), .string b] 104)) from hW)
      have HT : Hid (Turn F w wr) := hT
      have HLL := (show Hid ((app M.L (kept keep (M.C.take k))).length = M.L.length) from hlL)
      clear hV hp hsec hlL hlr HV HD hl hfl b0 hn hT HB HAB
      by_cases hkk : k < keep.length
      · rcases hbk with rfl | ⟨kb, ko, rfl, hkb, hkc⟩
        · simp at hkk
        · have hkcell := hkc k hkk
          have hWk : (wr.alloc (.cells #[.int .i64 (s : Int), .string b] 104)).cell? ⟨kb, ko + k, none⟩ = some (.bool keep[k]) := Lib.cell?_alloc_some _ hkcell
          have hkki : (k : Int) < (keep.length : Int) := by omega
          have hkd : keep.getD k false = keep[k] := by simp [List.getD, hkk]
          cases hbv : keep[k] with
          | true =>
            rw [hbv] at hkd hkcell hWk
            have HKD := (show Hid _ from hkd)
            clear hkd hkc hbv hkb
            go_wp2
            rw [← hW]
            clear hW ha hb hWk hkcell
            go_region
            go_wp2
            go_roundw
            case rel =>
              refine ⟨k + 1, by omega, by go_num, ?_, ?_⟩
              · have := DevV.setL (w' := (W.setCell ⟨gl, s, none⟩ (.string b)).drew) (i := s) (b := b) HV2.out HLL.out (by rw [HW.out]; exact alloc_set _ _)
                rw [kept_take_yes hlt HKD.out, app_snoc, HP.out]
                exact this
              · rw [HW.out]
                exact ((HT.out.alloc _).setCell (HF.out gl (.inr (.inl rfl))) _).drew
            case measure => simp [intOf]; omega
          | false =>
            rw [hbv] at hkd hkcell hWk
            have HKD := (show Hid _ from hkd)
            clear hkd hkc hbv hkb
            go_wp2
            go_roundw
            case rel =>
              refine ⟨k + 1, by omega, by go_num, ?_, HT.out.alloc _⟩
              rw [kept_take_no hlt HKD.out]
              exact HV2.out.kept fun k hk => Below.heap_alloc _ _ _ hk
            case measure => simp [intOf]; omega
      · have hkki : ¬ (k : Int) < (keep.length : Int) := by omega
        have hkd : keep.getD k false = false := by
          rw [List.getD, List.getElem?_eq_none (by omega)]
          rfl
        have HKD := (show Hid _ from hkd)
        clear hkd hbk
        go_wp2
        go_roundw
        case rel =>
          refine ⟨k + 1, by omega, by go_num, ?_, HT.out.alloc _⟩
          rw [kept_take_no hlt HKD.out]
          exact HV2.out.kept fun k hk => Below.heap_alloc _ _ _ hk
        case measure => simp [intOf]; omega
    · obtain rfl : k = M.C.length := by omega
      have hlL : (app M.L (kept keep M.C)).length = M.L.length := app_length _ _
      rw [List.take_length] at hV
      have hlr := hV.lr
      simp only [hlL] at hlr
      have b0 := cell_blk hV.blk 0
      have b1 := cell_blk hV.blk 1
      have f1 := frozen_blk hV.blk 1
      simp only [List.getElem?_toArray] at b0 b1
      have HCL := (show Hid _ from cloneS_any gl M.L.length cl (app M.L (kept keep M.C)) wr hlr hok.top)
      have HV2 := (show Hid (DevV wr d (.slice (some ⟨gl, 0, none⟩) M.L.length cl) (.slice (some ⟨gs, 0, none⟩) M.S.length cs) (.slice ca M.C.length cc) { M with L := app M.L (kept keep M.C) }) from hV)
      have HT : Hid (Turn F w wr) := hT
      clear hV hlr HV HB HAB hT
      go_wp2_with fail
      refine Calls.mono HCL.out ?_
      rintro e w2 ⟨v', rfl, ho, hb⟩
      clear HCL
      have hsz0 := hb.size
      obtain ⟨gn, cn, rfl, _, hgn, hgn2⟩ := owns_head ho hok.pos
      have hV2 : DevV w2 d _ _ _ _ := HV2.out.kept fun k hk => hb.block k hk
      have c1 := cell_blk hV2.blk 1
      have c2 := cell_blk hV2.blk 2
      have c3 := cell_blk hV2.blk 3
      have c4 := cell_blk hV2.blk 4
      have g1 := frozen_blk hV2.blk 1
      have g2 := frozen_blk hV2.blk 2
      have g3 := frozen_blk hV2.blk 3
      have g4 := frozen_blk hV2.blk 4
      simp only [List.getElem?_toArray] at c1 c2 c3 c4
      have HV3 := (show Hid _ from hV2)
      have HO := (show Hid _ from ho)
      have HBL : Hid (Below wr.heap.size wr w2) := hb
      clear hV2 ho hb b0 b1 f1
      go_wp2
      refine bodyPost_end (results_none rfl _ _ _) rfl ?_
      have hV := HV2.out
      have kd : d < wr.heap.size := (Array.getElem?_eq_some_iff.1 hV.blk).1
      have kl : gl < wr.heap.size := (World.ownsRow.lt hV.lr gl rfl).2
      have hsz := HBL.out.size
      have hsz2 := HT.out.size
      have hFd := HF.out d (.inl rfl)
      have hFl := HF.out gl (.inr (.inl rfl))
      have hok2 := hok.crash keep
      refine ⟨rfl, ⟨hok2, ?_, .slice (some ⟨gl, 0, none⟩) M.L.length cl, .slice (some ⟨gn, 0, none⟩) M.L.length cn, .slice none 0 0, ?_, ?_⟩, ?_⟩
      · intro k hk
        rcases hk with hk | hk
        · have := HD.out.2.1 k hk
          simp [World.setCell]
          omega
        · exact hk.2
      · refine crash_mem (w2 := w2) hV HBL.out (by rw [hlL]; exact HO.out) ?_ ?_
        · rw [set_blk (set_blk (set_blk (set_blk HV3.out.blk 1 _) 2 _) 3 _) 4 _]
          rfl
        · intro k hk
          rw [Below.heap_setCell _ _ _ _ hk, Below.heap_setCell _ _ _ _ hk, Below.heap_setCell _ _ _ _ hk, Below.heap_setCell _ _ _ _ hk]
      · intro k hk
        rcases hk with hk | hk | hk | hk
        · exact .inl (by rw [hk]; exact hFd)
        · obtain rfl : gl = k := by simpa [Value.ownBlock] using hk
          exact .inl hFl
        · obtain rfl : gn = k := by simpa [Value.ownBlock] using hk
          exact .inr ⟨by omega, by simp [World.setCell]; omega⟩
        · simp [Value.ownBlock] at hk
      · exact ((((HT.out.trans' (Turn.of_below HBL.out)).setCell hFd _).setCell hFd _).setCell hFd _).setCell hFd _
end Go.Proofs.Ytecljiefljgfmaa
/-
  The statements' own Sector by its contract.
-/
namespace Go.Proofs.Ytecljiefljgfmaa
open Go.RowKit

/-- The bytes of a sector by two numbers. -/
def secB (a b : Int) (i : Nat) : UInt8 := UInt8.ofNat (wrap64 (wrap64 (a * (i : Int)) + b) % 256).toNat
def sec (a b : Int) : List UInt8 := (List.range 256).map (secB a b)
theorem sec_length (a b : Int) : (sec a b).length = 256 := by simp [sec]
theorem u8_wrap (x : Int) : ((UInt8.ofNat (x % 256).toNat).toNat : Int) = x % 256 := by
  rw [UInt8.toNat_ofNat']
  omega
def secTo (a b : Int) (k : Nat) : List UInt8 := (sec a b).take k ++ List.replicate (256 - k) 0
theorem secTo_length (a b : Int) {k : Nat} (h : k ≤ 256) : (secTo a b k).length = 256 := by simp [secTo, sec_length]; omega
theorem secTo_set (a b : Int) {k : Nat} (h : k < 256) : (secTo a b k).set k (secB a b k) = secTo a b (k + 1) := by
  have hl := sec_length a b
  rw [secTo, secTo, List.set_append_right _ _ (by simp; omega), List.length_take, Nat.min_eq_left (by omega), Nat.sub_self]
  rw [show 256 - k = (256 - (k + 1)) + 1 from by omega, List.replicate_succ, List.set_cons_zero, List.take_succ_eq_append_getElem (by omega)]
  simp [sec]
theorem bcs_set (l : List UInt8) (k : Nat) (c : UInt8) : bcs (l.set k c) = (bcs l).set k (.int .u8 (c.toNat : Int)) := by simp [bcs, List.map_set]
theorem secTo_zero (a b : Int) : secTo a b 0 = List.replicate 256 0 := by rw [secTo, List.take_zero, List.nil_append]
theorem secTo_full (a b : Int) : secTo a b 256 = sec a b := by
  rw [secTo, List.take_of_length_le (by rw [sec_length]; exact Nat.le_refl _)]
  simp
theorem made_bytes (n : Nat) : (madeCells (Value.int .u8 0).cells (n * 1)).toList = bcs (List.replicate n 0) := by
  apply List.ext_getElem?
  intro i
  simp only [madeCells, bcs, Value.cells, Nat.mul_one, List.map_replicate]
  rcases Nat.lt_or_ge i n with h | h
  · simp [h, Nat.mod_one]
  · simp [h]

set_option maxHeartbeats 1000000 in
theorem sector_any (a b : Int) (w : World) :
    Calls Try.prog 20 #[.int .i64 a, .int .i64 b] w fun e w' => e = .returned (.slice (some ⟨w.heap.size, 0, none⟩) 256 256) ∧ w'.ownsRow w.heap.size 5 1 (.slice (some ⟨w.heap.size, 0, none⟩) 256 256) 256 (bcs (sec a b)) ∧ Below w.heap.size w w' := by
  obtain ⟨i0, hi, hz0, hz1, hz2⟩ := info_parts info5
  have hm : i0.bytes * 256 ≤ 281474976710656 := by rw [hz2]; omega
  go_enter Try.func20, Try.ntmps20
  go_wp2_with (at_make; refine wpList_make_full _ rfl _ _ 50 rfl w.heap.size 5 i0 (.int .u8 0) 1 Try.underlying50 hi hz0 hz1 _ _ _ _ 256 rfl rfl (by omega) (by omega) hm (by unfold maxLen; omega) (Nat.le_refl _) ?_; intro w0 hown0 hgrow0; rw [made_bytes] at hown0)
  go_loopw [6] (fun i wr => ∃ k : Nat, k ≤ 256 ∧ i = .int .i64 k ∧ wr.ownsRow w.heap.size 5 1 (.slice (some ⟨w.heap.size, 0, none⟩) 256 256) 256 (bcs (secTo a b k)) ∧ Below w.heap.size w wr)
    (fun i _ => 256 - (intOf i).toNat)
  case atStart => exact ⟨0, by omega, rfl, by rw [secTo_zero]; exact hown0, (Below.refl _ _).grown hgrow0 (Nat.le_refl _) (by simp)⟩
  case round =>
    obtain ⟨k, hk, rfl, ho, hb⟩ := hrel
    clear hown0 hgrow0
    by_cases hlt : k < 256
    · have hc := owns_cell ho (bcs_get (by rw [secTo_length a b hk]; exact hlt : k < (secTo a b k).length))
      have hf := owns_frozen ho k
      have hki : (k : Int) < 256 := by omega
      have HO := (show Hid (wr.ownsRow w.heap.size 5 1 (.slice (some ⟨w.heap.size, 0, none⟩) 256 256) 256 (bcs (secTo a b k)) ∧ Below w.heap.size w wr) from ⟨ho, hb⟩)
      have hset := secTo_set a b hlt
      have HS := (show Hid _ from hset)
      clear ho hb hset
      go_wp2
      go_roundw
      case rel =>
        refine ⟨k + 1, by omega, by go_num, ?_, ?_⟩
        · have := owns_set HO.out.1 k (.int .u8 ((secB a b k).toNat : Int))
          rw [← bcs_set, HS.out] at this
          rw [secB, u8_wrap] at this
          exact this
        · exact HO.out.2.setCell (Nat.le_refl _) _
      case measure => simp [intOf]; omega
    · obtain rfl : k = 256 := by omega
      have HO := (show Hid _ from ho)
      clear ho
      go_wp2
      go_ret
      rw [secTo_full] at HO
      exact ⟨rfl, HO.out, hb⟩
end Go.Proofs.Ytecljiefljgfmaa
/-
  Read by its contracts.
-/
namespace Go.Proofs.Ytecljiefljgfmaa
open Go.RowKit

/-- A row of bytes that nobody else holds. -/
structure Fresh (w : World) (g : Nat) (s : ByteArray) : Prop where
  lt : g < w.heap.size
  cell : ∀ j (h : j < s.size), w.cell? ⟨g, j, none⟩ = some (.int .u8 (s[j].toNat : Int))
  free : ∀ j, j < s.size → w.frozen? ⟨g, j, none⟩ = false

theorem Fresh.other {w w' : World} {g : Nat} {s : ByteArray} (h : Fresh w g s) (hs : w.heap.size ≤ w'.heap.size) (hh : w'.heap[g]? = w.heap[g]?) : Fresh w' g s :=
  ⟨Nat.lt_of_lt_of_le h.lt hs, fun j hj => (World.cell?_of_block (w := w) (a := ⟨g, j, none⟩) hh).trans (h.cell j hj), fun j hj => (World.frozen?_of_block (w := w) (a := ⟨g, j, none⟩) hh).trans (h.free j hj)⟩
theorem Fresh.bytes {w : World} {g : Nat} {s : ByteArray} (h : Fresh w g s) : Bytes w (some ⟨g, 0, none⟩) s.data.toList := by
  refine .inr ⟨g, 0, rfl, h.lt, fun j hj => ?_⟩
  have hj' : j < s.size := by simpa using hj
  rw [Nat.zero_add, h.cell j hj']
  rfl

theorem conv_fresh (s : ByteArray) (w : World) : ∃ W1 cap, (convert 9 50 (.string s)).run Try.prog w = .ok (.slice (some ⟨w.heap.size, 0, none⟩) s.size cap) W1 ∧ Fresh W1 w.heap.size s ∧ Below w.heap.size w W1 := by
  refine ⟨_, _, run_bytes_of_string w 9 50 5 s Try.underlying9 Try.underlying50 Try.underlying5, ⟨?_, ?_, ?_⟩, ?_⟩
  · show w.heap.size < (w.heap.push _).size
    simp
  · intro j h
    have := World.cell?_alloc_mark w.drew (bytesRow s (grownCap w s.size 0 5)) 5 ((bytesRow s (grownCap w s.size 0 5)).size, (bytesRow s (grownCap w s.size 0 5)).size + 1) j
    rw [show w.drew.heap.size = w.heap.size from rfl] at this
    rw [this, bytesRow, Array.getElem?_append_left (by simpa using h)]
    have hj : j < s.data.size := h
    rw [Array.getElem?_map, Array.getElem?_eq_getElem hj]
    rfl
  · intro j h
    have := World.frozen?_alloc_mark w.drew (bytesRow s (grownCap w s.size 0 5)) 5 (bytesRow s (grownCap w s.size 0 5)).size ((bytesRow s (grownCap w s.size 0 5)).size + 1) j
    rw [show w.drew.heap.size = w.heap.size from rfl] at this
    rw [this]
    have hsz : s.size ≤ (bytesRow s (grownCap w s.size 0 5)).size := by
      rw [bytesRow, Array.size_append, Array.size_map]
      exact Nat.le_add_right _ _
    rw [decide_eq_false (by omega)]
    rfl
  · exact ((Below.refl _ w).drew).alloc (Nat.le_refl _) _

set_option maxHeartbeats 1000000 in
theorem read_dead (d : Nat) (i : Int) (w : World) (F : Nat → Prop) (M : D) (h : Dev w F d M) (hs : M.st = 2) :
    Calls Try.prog 58 #[.pointer (some ⟨d, 0, none⟩), .int .i64 i] w fun e w' => e = .returned (.tuple #[.slice none 0 0, .int .i64 50]) ∧ w = w' := by
  obtain ⟨gl, cl, gs, cs, ca, cc, hV, _⟩ := h.open
  have c3 := cell_blk hV.blk 3
  simp only [List.getElem?_toArray] at c3
  rw [hs] at c3
  clear hV h hs
  go_enter Try.func58, Try.ntmps58
  go_wp2
  go_ret2
  exact ⟨rfl, rfl⟩

set_option maxHeartbeats 1000000 in
theorem read_arg (d : Nat) (i : Int) (w : World) (F : Nat → Prop) (M : D) (h : Dev w F d M) (hs : M.st ≠ 2) (hi : ¬ (0 ≤ i ∧ i < (M.L.length : Int))) :
    Calls Try.prog 58 #[.pointer (some ⟨d, 0, none⟩), .int .i64 i] w fun e w' => e = .returned (.tuple #[.slice none 0 0, .int .i64 1]) ∧ w = w' := by
  have hhas := has_any d i w F M h
  rw [h.1.len, decide_eq_false hi] at hhas
  obtain ⟨gl, cl, gs, cs, ca, cc, hV, _⟩ := h.open
  have c3 := cell_blk hV.blk 3
  simp only [List.getElem?_toArray] at c3
  have hs' : ((M.st : Int) == 2) = false := by simp; omega
  clear hV h hs hi
  go_enter Try.func58, Try.ntmps58
  go_wp2_with fail
  refine hhas.mono ?_
  rintro e w1 ⟨rfl, rfl⟩
  go_wp2
  go_ret2
  exact ⟨rfl, rfl⟩

set_option maxHeartbeats 1000000 in
theorem read_ok (d i : Nat) (w : World) (F : Nat → Prop) (M : D) (h : Dev w F d M) (hs : M.st ≠ 2) (hi : i < M.S.length) :
    Calls Try.prog 58 #[.pointer (some ⟨d, 0, none⟩), .int .i64 (i : Int)] w fun e w' => ∃ g cap, e = .returned (.tuple #[.slice (some ⟨g, 0, none⟩) M.S[i].size cap, .int .i64 0]) ∧ Fresh w' g M.S[i] ∧ w.heap.size ≤ g ∧ Below w.heap.size w w' := by
  have hhas := has_any d i w F M h
  rw [decide_eq_true (show (0 : Int) ≤ (i : Int) ∧ (i : Int) < (M.S.length : Int) from ⟨by omega, by omega⟩)] at hhas
  obtain ⟨gl, cl, gs, cs, ca, cc, hV, _⟩ := h.open
  have c3 := cell_blk hV.blk 3
  have c1 := cell_blk hV.blk 1
  simp only [List.getElem?_toArray] at c3 c1
  have ci := owns_cell hV.sr (scs_get hi)
  have hs' : ((M.st : Int) == 2) = false := by simp; omega
  obtain ⟨s, hse⟩ : ∃ s, s = M.S[i] := ⟨_, rfl⟩
  rw [← hse] at ci ⊢
  obtain ⟨W1, cap, hcv, hfr, hb⟩ := conv_fresh s w
  have hi' : (i : Int) < (M.S.length : Int) := by omega
  have HF := (show Hid (Fresh W1 w.heap.size s ∧ Below w.heap.size w W1) from ⟨hfr, hb⟩)
  clear hV h hs hse hfr hb hi
  go_enter Try.func58, Try.ntmps58
  go_wp2_with fail
  refine hhas.mono ?_
  rintro e w1 ⟨rfl, rfl⟩
  go_wp2
  go_ret2
  exact ⟨_, _, rfl, HF.out.1, Nat.le_refl _, HF.out.2⟩
end Go.Proofs.Ytecljiefljgfmaa
/-
  A row of bytes of one's own, read as bytes.
-/
namespace Go.Proofs.Ytecljiefljgfmaa
open Go.RowKit

theorem own_bytes {w : World} {base g n cap : Nat} {l : List UInt8} (h : w.ownsRow base 5 1 (.slice (some ⟨g, 0, none⟩) n cap) n (bcs l)) : Bytes w (some ⟨g, 0, none⟩) l := by
  refine .inr ⟨g, 0, rfl, (World.ownsRow.lt h g rfl).2, fun j hj => ?_⟩
  rw [Nat.zero_add]
  exact owns_cell h (bcs_get hj)
end Go.Proofs.Ytecljiefljgfmaa
