/-
  UnpackVersion by its contract.
-/
import Derived.Test.YtbhiabcgjnfpoaaGreatDoorRdV
import Derived.Test.YtbhiabcgjnfpoaaGreatDoorRun19
import Derived.Deep.CutBlock
import Derived.Test.YtbhiabcgjnfpoaaGreatDoorRun15
import Derived.Test.YtbhiabcgjnfpoaaGreatDoorRun12
import Derived.Laws.AppendOwnNone
import Derived.Lib.AppendZeros
namespace Go.Proofs.YtbhiabcgjnfpoaaGreatDoor
open Go.RowKit

theorem unp_tot : ∀ (f : Nat) (r : List UInt8) (L : List ByteArray), En.unp f r = some L → En.tot L ≤ r.length
  | 0, r, L, h => by simp [En.unp] at h
  | f + 1, r, L, h => by
    by_cases h0 : r.length = 0
    · rw [En.unp_nil h0] at h
      cases h
      exact Nat.zero_le _
    · by_cases h4 : r.length < 4
      · rw [En.unp_short h0 h4] at h
        cases h
      · by_cases h5 : r.length - 4 < En.vl r 4
        · rw [En.unp_long (by omega) h5] at h
          cases h
        · simp only [En.unp, if_neg h0, if_neg h4, if_neg h5, Option.map_eq_some_iff] at h
          obtain ⟨M, hM, rfl⟩ := h
          have ih := unp_tot f _ M hM
          rw [List.length_drop] at ih
          show 4 + (En.piece r).size + En.tot M ≤ _
          have hp : (En.piece r).size ≤ En.vl r 4 := by
            show (List.toArray _).size ≤ _
            rw [List.size_toArray, List.length_take]
            omega
          omega
theorem tot_len : ∀ L : List ByteArray, L.length ≤ En.tot L
  | [] => Nat.zero_le _
  | a :: r => by
    have := tot_len r
    show r.length + 1 ≤ 4 + a.size + En.tot r
    omega
/-- What a record's fields are. -/
def stt (l : List UInt8) : Option (List ByteArray) := if En.uOk l then some (En.uL l) else none
theorem stt_tot {l : List UInt8} {L : List ByteArray} (h : stt l = some L) : En.tot L ≤ l.length := by
  unfold stt at h
  split at h
  · cases h
    unfold En.uL
    next ho =>
    unfold En.uOk at ho
    cases e : En.unp (l.length + 1) l with
    | none => rw [e] at ho; cases ho
    | some M => exact unp_tot _ _ _ e
  · cases h
theorem stt_sm {l : List UInt8} (hl : l.length ≤ 8388608) : Sm (stt l) := fun L h x hx => by
  have h1 := En.tot_mem hx
  have h2 := stt_tot h
  omega
theorem stt_ln {l : List UInt8} (hl : l.length ≤ 8388608) : Ln (stt l) := fun L h => by
  have h1 := tot_len L
  have h2 := stt_tot h
  omega

theorem conv_cap (s : ByteArray) (w : World) : ∃ W1 cap, (convert 9 76 (.string s)).run Tryz.prog w = .ok (.slice (some ⟨w.heap.size, 0, none⟩) s.data.toList.length cap) W1 ∧ En.Bytes W1 (some ⟨w.heap.size, 0, none⟩) s.data.toList ∧ Below w.heap.size w W1 ∧ s.data.toList.length ≤ cap := by
  obtain ⟨W1, cap, h1, h2, h3⟩ := conv_new s w
  refine ⟨W1, cap, h1, h2, h3, ?_⟩
  have h4 := run_bytes_of_string (P := Tryz.prog) w 9 76 5 s Tryz.underlying9 Tryz.underlying76 Tryz.underlying5
  rw [h1] at h4
  simp only [Result.ok.injEq, Value.slice.injEq] at h4
  have := grownCap_ge w s.size 0 5
  have hl : s.data.toList.length = s.size := by simp
  omega
/-- A reader that was just made. -/
theorem rd_new {w3 : World} {base : Nat} {v : Value} {l : List UInt8} (ho : En.OwnS w3 base v (En.uL l)) : Rd ((w3.alloc (.cells #[v] 65)).alloc (.cells #[.bool (En.uOk l)] 4)) w3.heap.size (w3.heap.size + 1) w3.heap.size (stt l) := by
  have e1 : (w3.alloc (.cells #[v] 65)).heap.size = w3.heap.size + 1 := by show (w3.heap.push _).size = _; simp
  have hb : Below w3.heap.size w3 ((w3.alloc (.cells #[v] 65)).alloc (.cells #[.bool (En.uOk l)] 4)) := ((Below.refl _ w3).alloc (Nat.le_refl _) _).alloc (by omega) _
  obtain ⟨a, c, rfl, hs⟩ := ho.strs
  have hc : (En.uL l).length ≤ c ∧ ∀ b off, a = some ⟨b, off, none⟩ → b < w3.heap.size := by
    obtain ⟨_, ⟨h1, h2⟩ | ⟨g, cap, cur, h1, h2, h3, h4, _⟩⟩ := ho
    · simp only [Value.slice.injEq] at h1
      refine ⟨by omega, fun b off e => ?_⟩
      rw [h1.1] at e
      cases e
    · simp only [Value.slice.injEq] at h1
      refine ⟨by omega, fun b off e => ?_⟩
      rw [h1.1] at e
      simp only [Option.some.injEq, Addr.mk.injEq] at e
      have := blk_lt h3
      omega
  refine ⟨by omega, hb.size, ?_, a, (En.uL l).length, c, ?_, fun L hL => ?_⟩
  · rw [← e1]
    have : (stt l).isSome = En.uOk l := by unfold stt; cases En.uOk l <;> rfl
    rw [this]
    exact heap_alloc_new _ _
  · rw [heap_alloc_old _ _ (by omega)]
    exact heap_alloc_new _ _
  · unfold stt at hL
    split at hL
    · cases hL
      exact ⟨rfl, hc.1, hs.below hb (Nat.le_refl _), hc.2⟩
    · cases hL

theorem ret_box30 {fn : Func} {p u : Tmp} (h : fn.results = #[.cell p 30, .tmp u]) (tmps : Array Value) (w : World) {g : Nat} {x0 x1 x2 x3 x4 x5 x6 x7 x8 x9 x10 x11 : Value} (hp : tmps.getD p undef = .pointer (some ⟨g, 0, none⟩)) (hg : w.heap[g]? = some (.cells #[x0, x1, x2, x3, x4, x5, x6, x7, x8, x9, x10, x11] 30 (0, 0))) :
    (results fn tmps).run Tryz.prog w = .ok (.tuple #[.agg #[x0, x1, x2, x3, x4, x5, x6, x7, x8, x9, x10, x11], tmps.getD u undef]) w := by
  rw [results_cell_tmp h, hp]
  simp [asAddr, Result.andThen, run_loadVar_row (P := Tryz.prog) w g 30 30 _ (0, 0) _ hg Tryz.underlying30 rfl size30]

set_option maxRecDepth 20000 in
set_option maxHeartbeats 8000000 in
theorem unpackV62_yes (x : ByteArray) (l : List UInt8) (hxl : l = x.data.toList) (w : World) (hx : x.size ≤ 8388608) (hy : vs11 (stt l) = some []) :
    Calls Tryz.prog 62 #[.string x, .func (.func 63) #[] #[]] w fun e w' => ∃ a8 n8 c8 a9 n9 c9, e = .returned (.tuple #[.agg #[.string (txV (stt l)), .int .i64 (nuV (vs1 (stt l))), .bool (fgV (vs2 (stt l))), .bool (fgV (vs3 (stt l))), .string (txV (vs4 (stt l))), .int .i64 (nuV (vs5 (stt l))), .int .i64 (nuV (vs6 (stt l))), .string (txV (vs7 (stt l))), .slice a8 n8 c8, .slice a9 n9 c9, .int .i64 (nuV (vs10 (stt l))), .int .i64 (nuV (tkS nuG (vs10 (stt l))))], .bool true]) ∧ Below w.heap.size w w' ∧ w'.ownsRow w.heap.size 81 2 (.slice a8 n8 c8) n8 (pcs (lsV prV prS (vs8 (stt l)))) ∧ n8 = (lsV prV prS (vs8 (stt l))).length ∧ w'.ownsRow w.heap.size 72 2 (.slice a9 n9 c9) n9 (pcs (lsV prV prS (vs9 (stt l)))) ∧ n9 = (lsV prV prS (vs9 (stt l))).length := by
  have hmf : ∀ (fn : Fn) (first cap : Array Value) (w : World), (Instr.makeFunc fn first cap).run Tryz.prog w = .ok (.func fn first cap) w := fun _ _ _ _ => rfl
  have hent : ∀ args w, (callFunc 63 args).run Tryz.prog w = .ok (.enter 63 args) w := fun args w => Tryz.call63 args w
  have hl : x.data.toList.length ≤ 8388608 := by simpa using hx
  have HY := (show Hid (vs11 (stt l) = some []) from hy)
  clear hy
  have HCV := (show Hid (∀ W, ∃ W1 cap, (convert 9 76 (.string x)).run Tryz.prog W = .ok (.slice (some ⟨W.heap.size, 0, none⟩) l.length cap) W1 ∧ En.Bytes W1 (some ⟨W.heap.size, 0, none⟩) l ∧ Below W.heap.size W W1 ∧ l.length ≤ cap) from fun W => by rw [hxl]; exact conv_cap x W)
  rw [← hxl] at hl
  clear hxl hx
  go_enter Tryz.func62, Tryz.ntmps62
  go_upto_region 1 with fail
  obtain ⟨W1, hW1⟩ : ∃ W1, W1 = w.alloc (.cells #[.string ⟨#[]⟩, .int .i64 0, .bool false, .bool false, .string ⟨#[]⟩, .int .i64 0, .int .i64 0, .string ⟨#[]⟩, .slice none 0 0, .slice none 0 0, .int .i64 0, .int .i64 0] 30) := ⟨_, rfl⟩
  rw [← hW1]
  obtain ⟨r, hr⟩ : ∃ r, r = w.heap.size := ⟨_, rfl⟩
  rw [← hr]
  have bR : W1.heap[r]? = some (.cells #[.string ⟨#[]⟩, .int .i64 0, .bool false, .bool false, .string ⟨#[]⟩, .int .i64 0, .int .i64 0, .string ⟨#[]⟩, .slice none 0 0, .slice none 0 0, .int .i64 0, .int .i64 0] 30 (0, 0)) := by rw [hW1, hr]; exact heap_alloc_new w _
  have hB1 : Below w.heap.size w W1 := by rw [hW1]; exact (Below.refl _ w).alloc (Nat.le_refl _) _
  have HR0 : Hid (r = w.heap.size) := hr
  clear hW1 hr
  obtain ⟨W2, cap, hcv, hbs, hb2, hcap⟩ := HCV.out W1
  have HU := En.unpack_any _ l cap W2 hl hcap hbs
  clear HCV hbs hcap
  go_wp2_with fail
  refine HU.mono ?_
  rintro e w3 ⟨v, rfl, ho, hb3⟩
  obtain ⟨a, c, rfl, -⟩ := ho.strs
  go_upto_region 2 with fail
  obtain ⟨W4, hW4⟩ : ∃ W4, W4 = (w3.alloc (.cells #[.slice a (En.uL l).length c] 65)).alloc (.cells #[.bool (En.uOk l)] 4) := ⟨_, rfl⟩
  rw [← hW4]
  obtain ⟨f, hf⟩ : ∃ f, f = w3.heap.size := ⟨_, rfl⟩
  obtain ⟨s, hs⟩ : ∃ s, s = w3.heap.size + 1 := ⟨_, rfl⟩
  rw [← hs, ← hf]
  have rd4 : Rd W4 w3.heap.size s f (stt l) := by rw [hW4, hs, hf]; exact rd_new ho
  have hB3 : Below w.heap.size w w3 := step_below (step_below hB1 hb2 (Nat.le_refl _)) hb3 (Nat.le_refl _)
  have hB4 : Below w3.heap.size w3 W4 := by rw [hW4]; exact ((Below.refl _ w3).alloc (Nat.le_refl _) _).alloc (by show w3.heap.size ≤ (w3.heap.push _).size; simp) _
  have hrlt := blk_lt bR
  have z12 := hb2.size
  have z23 := hb3.size
  have z34 := hB4.size
  have bR4 : W4.heap[r]? = some (.cells #[.string ⟨#[]⟩, .int .i64 0, .bool false, .bool false, .string ⟨#[]⟩, .int .i64 0, .int .i64 0, .string ⟨#[]⟩, .slice none 0 0, .slice none 0 0, .int .i64 0, .int .i64 0] 30 (0, 0)) := (hB4.block r (by omega)).trans ((hb3.block r (by omega)).trans ((hb2.block r hrlt).trans bR))
  have HV := version1_any 100 101 w3.heap.size s f take100 snd101 (stt l) W4 rd4 (stt_sm hl) (stt_ln hl)
  have HF : Hid (r < f ∧ r < s ∧ w.heap.size ≤ r ∧ r < W4.heap.size ∧ f < W4.heap.size ∧ s < W4.heap.size ∧ w.heap.size ≤ f ∧ w.heap.size ≤ s) := ⟨by omega, by omega, by have := HR0.out; omega, by omega, rd4.lt.2, rd4.lt.1, by have := HR0.out; omega, by have := HR0.out; omega⟩
  have HB : Hid (Below w.heap.size w W4) := step_below hB3 hB4 (Nat.le_refl _)
  have HR4 : Hid (W4.heap[r]? = some (.cells #[.string ⟨#[]⟩, .int .i64 0, .bool false, .bool false, .string ⟨#[]⟩, .int .i64 0, .int .i64 0, .string ⟨#[]⟩, .slice none 0 0, .slice none 0 0, .int .i64 0, .int .i64 0] 30 (0, 0))) := bR4
  unfold rdV at HV
  clear hW4 hf hs rd4 hB3 hB4 hrlt z12 z23 z34 bR4 bR hB1 hb2 hb3 ho hcv HU
  go_wp2_with fail
  refine HV.mono ?_
  rintro e w5 ⟨a8, n8, c8, a9, n9, c9, rfl, hr5', hm5', hrow'⟩
  have H5 : Hid (Rd w5 w3.heap.size s f (vs11 (stt l)) ∧ Md (fun b => b = s ∨ b = f) W4 w5 ∧ _) := ⟨hr5', hm5', hrow'⟩
  clear hr5' hm5' hrow' HV
  go_upto_region 3 with fail
  obtain ⟨hr5, hm5, hrow⟩ := H5.out
  have hy := HY.out
  have hs5 := hr5.bs
  obtain ⟨fa, fn, fc, hf5, hfl⟩ := hr5.bf
  have bR5 := keep_blk HR4.out hm5 (by have := HF.out; omega)
  have hB5 : Below w.heap.size w w5 := Md.toBelow HB.out hm5 (fun b hb hx => by have := HF.out; omega) (Nat.le_refl _)
  have z45 := hm5.size
  obtain ⟨q1, q2, q3, q4⟩ := hrow [] hy
  rw [hy] at hs5
  have hfn : fn = 0 := (hfl [] hy).1
  subst hfn
  obtain ⟨W6, hW6⟩ : ∃ W6, W6 = w5.alloc (.cells #[.string (txV (stt l)), .int .i64 (nuV (vs1 (stt l))), .bool (fgV (vs2 (stt l))), .bool (fgV (vs3 (stt l))), .string (txV (vs4 (stt l))), .int .i64 (nuV (vs5 (stt l))), .int .i64 (nuV (vs6 (stt l))), .string (txV (vs7 (stt l))), .slice a8 n8 c8, .slice a9 n9 c9, .int .i64 (nuV (vs10 (stt l))), .int .i64 (nuV (tkS nuG (vs10 (stt l))))] 30) := ⟨_, rfl⟩
  obtain ⟨q, hq⟩ : ∃ q, q = w5.heap.size := ⟨_, rfl⟩
  have bs6 : W6.heap[s]? = some (.cells #[.bool true] 4 (0, 0)) := by rw [hW6, heap_alloc_old _ _ (by have := HF.out; omega)]; exact hs5
  have bf6 : W6.heap[f]? = some (.cells #[.slice fa 0 fc] 65 (0, 0)) := by rw [hW6, heap_alloc_old _ _ (by have := HF.out; omega)]; exact hf5
  have br6 : W6.heap[r]? = some (.cells #[.string ⟨#[]⟩, .int .i64 0, .bool false, .bool false, .string ⟨#[]⟩, .int .i64 0, .int .i64 0, .string ⟨#[]⟩, .slice none 0 0, .slice none 0 0, .int .i64 0, .int .i64 0] 30 (0, 0)) := by rw [hW6, heap_alloc_old _ _ (by have := HF.out; omega)]; exact bR5
  have bq6 : W6.heap[q]? = some (.cells #[.string (txV (stt l)), .int .i64 (nuV (vs1 (stt l))), .bool (fgV (vs2 (stt l))), .bool (fgV (vs3 (stt l))), .string (txV (vs4 (stt l))), .int .i64 (nuV (vs5 (stt l))), .int .i64 (nuV (vs6 (stt l))), .string (txV (vs7 (stt l))), .slice a8 n8 c8, .slice a9 n9 c9, .int .i64 (nuV (vs10 (stt l))), .int .i64 (nuV (tkS nuG (vs10 (stt l))))] 30 (0, 0)) := by rw [hW6, hq]; exact heap_alloc_new _ _
  have hld : (loadVar 30 ⟨q, 0, none⟩).run Tryz.prog W6 = .ok (.agg #[.string (txV (stt l)), .int .i64 (nuV (vs1 (stt l))), .bool (fgV (vs2 (stt l))), .bool (fgV (vs3 (stt l))), .string (txV (vs4 (stt l))), .int .i64 (nuV (vs5 (stt l))), .int .i64 (nuV (vs6 (stt l))), .string (txV (vs7 (stt l))), .slice a8 n8 c8, .slice a9 n9 c9, .int .i64 (nuV (vs10 (stt l))), .int .i64 (nuV (tkS nuG (vs10 (stt l))))]) W6 := run_loadVar_row (P := Tryz.prog) W6 q 30 30 _ (0, 0) _ bq6 Tryz.underlying30 rfl size30
  have HE : Hid (Below w.heap.size w W6 ∧ W6.heap[r]? = some (.cells #[.string ⟨#[]⟩, .int .i64 0, .bool false, .bool false, .string ⟨#[]⟩, .int .i64 0, .int .i64 0, .string ⟨#[]⟩, .slice none 0 0, .slice none 0 0, .int .i64 0, .int .i64 0] 30 (0, 0)) ∧ (W6.ownsRow W4.heap.size 81 2 (.slice a8 n8 c8) n8 (pcs (lsV prV prS (vs8 (stt l)))) ∧ n8 = (lsV prV prS (vs8 (stt l))).length ∧ W6.ownsRow W4.heap.size 72 2 (.slice a9 n9 c9) n9 (pcs (lsV prV prS (vs9 (stt l)))) ∧ n9 = (lsV prV prS (vs9 (stt l))).length)) := by
    rw [hW6]
    exact ⟨hB5.alloc hB5.size _, by rw [hW6] at br6; exact br6, q1.alloc _, q2, q3.alloc _, q4⟩
  rw [← hW6, ← hq]
  clear hW6 hq q1 q2 q3 q4 hs5 hf5 hfl bR5 hB5 z45 hr5 hm5 hrow hy H5 HY
  have sc0 := cell_blk bs6 0
  simp only [List.getElem?_toArray] at sc0
  have gc0 := cell_blk bf6 0
  simp only [List.getElem?_toArray] at gc0
  have rc0 := cell_blk br6 0
  have rc1 := cell_blk br6 1
  have rc2 := cell_blk br6 2
  have rc3 := cell_blk br6 3
  have rc4 := cell_blk br6 4
  have rc5 := cell_blk br6 5
  have rc6 := cell_blk br6 6
  have rc7 := cell_blk br6 7
  have rc8 := cell_blk br6 8
  have rc9 := cell_blk br6 9
  have rc10 := cell_blk br6 10
  have rc11 := cell_blk br6 11
  have rf0 := frozen_blk br6 0
  have rf1 := frozen_blk br6 1
  have rf2 := frozen_blk br6 2
  have rf3 := frozen_blk br6 3
  have rf4 := frozen_blk br6 4
  have rf5 := frozen_blk br6 5
  have rf6 := frozen_blk br6 6
  have rf7 := frozen_blk br6 7
  have rf8 := frozen_blk br6 8
  have rf9 := frozen_blk br6 9
  have rf10 := frozen_blk br6 10
  have rf11 := frozen_blk br6 11
  simp only [List.getElem?_toArray] at rc0 rc1 rc2 rc3 rc4 rc5 rc6 rc7 rc8 rc9 rc10 rc11
  clear bs6 bf6 br6
  have qc0 := cell_blk bq6 0
  have qc1 := cell_blk bq6 1
  have qc2 := cell_blk bq6 2
  have qc3 := cell_blk bq6 3
  have qc4 := cell_blk bq6 4
  have qc5 := cell_blk bq6 5
  have qc6 := cell_blk bq6 6
  have qc7 := cell_blk bq6 7
  have qc8 := cell_blk bq6 8
  have qc9 := cell_blk bq6 9
  have qc10 := cell_blk bq6 10
  have qc11 := cell_blk bq6 11
  simp only [List.getElem?_toArray] at qc0 qc1 qc2 qc3 qc4 qc5 qc6 qc7 qc8 qc9 qc10 qc11
  clear bq6
  go_wp2
  (try simp only [Exit.inBlock, Exit.then])
  refine bodyPost_ret (ret_box30 rfl _ _ rfl (setB12 HE.out.2.1 _ _ _ _ _ _ _ _ _ _ _ _)) rfl ⟨a8, n8, c8, a9, n9, c9, rfl, ?_, ?_, HE.out.2.2.2.1, ?_, HE.out.2.2.2.2.2⟩
  · exact Md.toBelow HE.out.1 (setM12 (Md.refl (fun b => b = r) W6) (.inl rfl) _ _ _ _ _ _ _ _ _ _ _ _) (fun b hb he => by have := HF.out; omega) (Nat.le_refl _)
  · exact own_base (own_md HE.out.2.2.1 (setM12 (Md.refl (fun b => b = r) W6) (.inl rfl) _ _ _ _ _ _ _ _ _ _ _ _) (fun j hj he => by have := (HE.out.2.2.1.lt j hj).1; have := HF.out; omega)) (by have := HB.out.size; omega)
  · exact own_base (own_md HE.out.2.2.2.2.1 (setM12 (Md.refl (fun b => b = r) W6) (.inl rfl) _ _ _ _ _ _ _ _ _ _ _ _) (fun j hj he => by have := (HE.out.2.2.2.2.1.lt j hj).1; have := HF.out; omega)) (by have := HB.out.size; omega)
set_option maxRecDepth 20000 in
set_option maxHeartbeats 8000000 in
theorem unpackV62_no (x : ByteArray) (l : List UInt8) (hxl : l = x.data.toList) (w : World) (hx : x.size ≤ 8388608) (hy : vs11 (stt l) ≠ some []) :
    Calls Tryz.prog 62 #[.string x, .func (.func 63) #[] #[]] w fun e w' => e = .returned (.tuple #[.agg #[.string ⟨#[]⟩, .int .i64 0, .bool false, .bool false, .string ⟨#[]⟩, .int .i64 0, .int .i64 0, .string ⟨#[]⟩, .slice none 0 0, .slice none 0 0, .int .i64 0, .int .i64 0], .bool false]) ∧ Below w.heap.size w w' := by
  have hmf : ∀ (fn : Fn) (first cap : Array Value) (w : World), (Instr.makeFunc fn first cap).run Tryz.prog w = .ok (.func fn first cap) w := fun _ _ _ _ => rfl
  have hent : ∀ args w, (callFunc 63 args).run Tryz.prog w = .ok (.enter 63 args) w := fun args w => Tryz.call63 args w
  have hl : x.data.toList.length ≤ 8388608 := by simpa using hx
  have HY := (show Hid (vs11 (stt l) ≠ some []) from hy)
  clear hy
  have HCV := (show Hid (∀ W, ∃ W1 cap, (convert 9 76 (.string x)).run Tryz.prog W = .ok (.slice (some ⟨W.heap.size, 0, none⟩) l.length cap) W1 ∧ En.Bytes W1 (some ⟨W.heap.size, 0, none⟩) l ∧ Below W.heap.size W W1 ∧ l.length ≤ cap) from fun W => by rw [hxl]; exact conv_cap x W)
  rw [← hxl] at hl
  clear hxl hx
  go_enter Tryz.func62, Tryz.ntmps62
  go_upto_region 1 with fail
  obtain ⟨W1, hW1⟩ : ∃ W1, W1 = w.alloc (.cells #[.string ⟨#[]⟩, .int .i64 0, .bool false, .bool false, .string ⟨#[]⟩, .int .i64 0, .int .i64 0, .string ⟨#[]⟩, .slice none 0 0, .slice none 0 0, .int .i64 0, .int .i64 0] 30) := ⟨_, rfl⟩
  rw [← hW1]
  obtain ⟨r, hr⟩ : ∃ r, r = w.heap.size := ⟨_, rfl⟩
  rw [← hr]
  have bR : W1.heap[r]? = some (.cells #[.string ⟨#[]⟩, .int .i64 0, .bool false, .bool false, .string ⟨#[]⟩, .int .i64 0, .int .i64 0, .string ⟨#[]⟩, .slice none 0 0, .slice none 0 0, .int .i64 0, .int .i64 0] 30 (0, 0)) := by rw [hW1, hr]; exact heap_alloc_new w _
  have hB1 : Below w.heap.size w W1 := by rw [hW1]; exact (Below.refl _ w).alloc (Nat.le_refl _) _
  have HR0 : Hid (r = w.heap.size) := hr
  clear hW1 hr
  obtain ⟨W2, cap, hcv, hbs, hb2, hcap⟩ := HCV.out W1
  have HU := En.unpack_any _ l cap W2 hl hcap hbs
  clear HCV hbs hcap
  go_wp2_with fail
  refine HU.mono ?_
  rintro e w3 ⟨v, rfl, ho, hb3⟩
  obtain ⟨a, c, rfl, -⟩ := ho.strs
  go_upto_region 2 with fail
  obtain ⟨W4, hW4⟩ : ∃ W4, W4 = (w3.alloc (.cells #[.slice a (En.uL l).length c] 65)).alloc (.cells #[.bool (En.uOk l)] 4) := ⟨_, rfl⟩
  rw [← hW4]
  obtain ⟨f, hf⟩ : ∃ f, f = w3.heap.size := ⟨_, rfl⟩
  obtain ⟨s, hs⟩ : ∃ s, s = w3.heap.size + 1 := ⟨_, rfl⟩
  rw [← hs, ← hf]
  have rd4 : Rd W4 w3.heap.size s f (stt l) := by rw [hW4, hs, hf]; exact rd_new ho
  have hB3 : Below w.heap.size w w3 := step_below (step_below hB1 hb2 (Nat.le_refl _)) hb3 (Nat.le_refl _)
  have hB4 : Below w3.heap.size w3 W4 := by rw [hW4]; exact ((Below.refl _ w3).alloc (Nat.le_refl _) _).alloc (by show w3.heap.size ≤ (w3.heap.push _).size; simp) _
  have hrlt := blk_lt bR
  have z12 := hb2.size
  have z23 := hb3.size
  have z34 := hB4.size
  have bR4 : W4.heap[r]? = some (.cells #[.string ⟨#[]⟩, .int .i64 0, .bool false, .bool false, .string ⟨#[]⟩, .int .i64 0, .int .i64 0, .string ⟨#[]⟩, .slice none 0 0, .slice none 0 0, .int .i64 0, .int .i64 0] 30 (0, 0)) := (hB4.block r (by omega)).trans ((hb3.block r (by omega)).trans ((hb2.block r hrlt).trans bR))
  have HV := version1_any 100 101 w3.heap.size s f take100 snd101 (stt l) W4 rd4 (stt_sm hl) (stt_ln hl)
  have HF : Hid (r < f ∧ r < s ∧ w.heap.size ≤ r ∧ r < W4.heap.size ∧ f < W4.heap.size ∧ s < W4.heap.size ∧ w.heap.size ≤ f ∧ w.heap.size ≤ s) := ⟨by omega, by omega, by have := HR0.out; omega, by omega, rd4.lt.2, rd4.lt.1, by have := HR0.out; omega, by have := HR0.out; omega⟩
  have HB : Hid (Below w.heap.size w W4) := step_below hB3 hB4 (Nat.le_refl _)
  have HR4 : Hid (W4.heap[r]? = some (.cells #[.string ⟨#[]⟩, .int .i64 0, .bool false, .bool false, .string ⟨#[]⟩, .int .i64 0, .int .i64 0, .string ⟨#[]⟩, .slice none 0 0, .slice none 0 0, .int .i64 0, .int .i64 0] 30 (0, 0))) := bR4
  unfold rdV at HV
  clear hW4 hf hs rd4 hB3 hB4 hrlt z12 z23 z34 bR4 bR hB1 hb2 hb3 ho hcv HU
  go_wp2_with fail
  refine HV.mono ?_
  rintro e w5 ⟨a8, n8, c8, a9, n9, c9, rfl, hr5', hm5', hrow'⟩
  have H5 : Hid (Rd w5 w3.heap.size s f (vs11 (stt l)) ∧ Md (fun b => b = s ∨ b = f) W4 w5 ∧ _) := ⟨hr5', hm5', hrow'⟩
  clear hr5' hm5' hrow' HV
  go_upto_region 3 with fail
  obtain ⟨hr5, hm5, hrow⟩ := H5.out
  have hy := HY.out
  have hs5 := hr5.bs
  obtain ⟨fa, fn, fc, hf5, hfl⟩ := hr5.bf
  have bR5 := keep_blk HR4.out hm5 (by have := HF.out; omega)
  have hB5 : Below w.heap.size w w5 := Md.toBelow HB.out hm5 (fun b hb hx => by have := HF.out; omega) (Nat.le_refl _)
  have z45 := hm5.size
  cases hst : vs11 (stt l) with
  | none =>
    rw [hst] at hs5
    obtain ⟨W6, hW6⟩ : ∃ W6, W6 = w5.alloc (.cells #[.string (txV (stt l)), .int .i64 (nuV (vs1 (stt l))), .bool (fgV (vs2 (stt l))), .bool (fgV (vs3 (stt l))), .string (txV (vs4 (stt l))), .int .i64 (nuV (vs5 (stt l))), .int .i64 (nuV (vs6 (stt l))), .string (txV (vs7 (stt l))), .slice a8 n8 c8, .slice a9 n9 c9, .int .i64 (nuV (vs10 (stt l))), .int .i64 (nuV (tkS nuG (vs10 (stt l))))] 30) := ⟨_, rfl⟩
    obtain ⟨q, hq⟩ : ∃ q, q = w5.heap.size := ⟨_, rfl⟩
    have bs6 : W6.heap[s]? = some (.cells #[.bool false] 4 (0, 0)) := by rw [hW6, heap_alloc_old _ _ (by have := HF.out; omega)]; exact hs5
    have bf6 : W6.heap[f]? = some (.cells #[.slice fa fn fc] 65 (0, 0)) := by rw [hW6, heap_alloc_old _ _ (by have := HF.out; omega)]; exact hf5
    have br6 : W6.heap[r]? = some (.cells #[.string ⟨#[]⟩, .int .i64 0, .bool false, .bool false, .string ⟨#[]⟩, .int .i64 0, .int .i64 0, .string ⟨#[]⟩, .slice none 0 0, .slice none 0 0, .int .i64 0, .int .i64 0] 30 (0, 0)) := by rw [hW6, heap_alloc_old _ _ (by have := HF.out; omega)]; exact bR5
    have hB6 : Below w.heap.size w W6 := by rw [hW6]; exact hB5.alloc hB5.size _
    have hr6 : r < W6.heap.size := blk_lt br6
    rw [← hW6, ← hq]
    clear hW6 hq hs5 hf5 hfl bR5 hB5 z45 hr5 hm5 hrow hy H5 HY
    have sc0 := cell_blk bs6 0
    simp only [List.getElem?_toArray] at sc0
    have gc0 := cell_blk bf6 0
    simp only [List.getElem?_toArray] at gc0
    have HE6 : Hid (Below w.heap.size w W6 ∧ W6.heap[r]? = some (.cells #[.string ⟨#[]⟩, .int .i64 0, .bool false, .bool false, .string ⟨#[]⟩, .int .i64 0, .int .i64 0, .string ⟨#[]⟩, .slice none 0 0, .slice none 0 0, .int .i64 0, .int .i64 0] 30 (0, 0)) ∧ r < W6.heap.size) := ⟨hB6, br6, hr6⟩
    clear bs6 bf6 br6 hB6 hr6
    go_upto_region 5 with fail
    obtain ⟨W7, hW7⟩ : ∃ W7, W7 = W6.alloc (.cells #[.string ⟨#[]⟩, .int .i64 0, .bool false, .bool false, .string ⟨#[]⟩, .int .i64 0, .int .i64 0, .string ⟨#[]⟩, .slice none 0 0, .slice none 0 0, .int .i64 0, .int .i64 0] 30) := ⟨_, rfl⟩
    obtain ⟨q2, hq2⟩ : ∃ q2, q2 = W6.heap.size := ⟨_, rfl⟩
    rw [← hW7, ← hq2]
    have br7 : W7.heap[r]? = some (.cells #[.string ⟨#[]⟩, .int .i64 0, .bool false, .bool false, .string ⟨#[]⟩, .int .i64 0, .int .i64 0, .string ⟨#[]⟩, .slice none 0 0, .slice none 0 0, .int .i64 0, .int .i64 0] 30 (0, 0)) := by rw [hW7, heap_alloc_old _ _ HE6.out.2.2]; exact HE6.out.2.1
    have bq7 : W7.heap[q2]? = some (.cells #[.string ⟨#[]⟩, .int .i64 0, .bool false, .bool false, .string ⟨#[]⟩, .int .i64 0, .int .i64 0, .string ⟨#[]⟩, .slice none 0 0, .slice none 0 0, .int .i64 0, .int .i64 0] 30 (0, 0)) := by rw [hW7, hq2]; exact heap_alloc_new _ _
    have hld : (loadVar 30 ⟨q2, 0, none⟩).run Tryz.prog W7 = .ok (.agg #[.string ⟨#[]⟩, .int .i64 0, .bool false, .bool false, .string ⟨#[]⟩, .int .i64 0, .int .i64 0, .string ⟨#[]⟩, .slice none 0 0, .slice none 0 0, .int .i64 0, .int .i64 0]) W7 := run_loadVar_row (P := Tryz.prog) W7 q2 30 30 _ (0, 0) _ bq7 Tryz.underlying30 rfl size30
    have HE : Hid (Below w.heap.size w W7 ∧ W7.heap[r]? = some (.cells #[.string ⟨#[]⟩, .int .i64 0, .bool false, .bool false, .string ⟨#[]⟩, .int .i64 0, .int .i64 0, .string ⟨#[]⟩, .slice none 0 0, .slice none 0 0, .int .i64 0, .int .i64 0] 30 (0, 0))) := ⟨by rw [hW7]; exact HE6.out.1.alloc HE6.out.1.size _, br7⟩
    clear hW7 hq2 sc0 gc0 HE6
    have rc0 := cell_blk br7 0
    have rc1 := cell_blk br7 1
    have rc2 := cell_blk br7 2
    have rc3 := cell_blk br7 3
    have rc4 := cell_blk br7 4
    have rc5 := cell_blk br7 5
    have rc6 := cell_blk br7 6
    have rc7 := cell_blk br7 7
    have rc8 := cell_blk br7 8
    have rc9 := cell_blk br7 9
    have rc10 := cell_blk br7 10
    have rc11 := cell_blk br7 11
    have rf0 := frozen_blk br7 0
    have rf1 := frozen_blk br7 1
    have rf2 := frozen_blk br7 2
    have rf3 := frozen_blk br7 3
    have rf4 := frozen_blk br7 4
    have rf5 := frozen_blk br7 5
    have rf6 := frozen_blk br7 6
    have rf7 := frozen_blk br7 7
    have rf8 := frozen_blk br7 8
    have rf9 := frozen_blk br7 9
    have rf10 := frozen_blk br7 10
    have rf11 := frozen_blk br7 11
    simp only [List.getElem?_toArray] at rc0 rc1 rc2 rc3 rc4 rc5 rc6 rc7 rc8 rc9 rc10 rc11
    have qc0 := cell_blk bq7 0
    have qc1 := cell_blk bq7 1
    have qc2 := cell_blk bq7 2
    have qc3 := cell_blk bq7 3
    have qc4 := cell_blk bq7 4
    have qc5 := cell_blk bq7 5
    have qc6 := cell_blk bq7 6
    have qc7 := cell_blk bq7 7
    have qc8 := cell_blk bq7 8
    have qc9 := cell_blk bq7 9
    have qc10 := cell_blk bq7 10
    have qc11 := cell_blk bq7 11
    simp only [List.getElem?_toArray] at qc0 qc1 qc2 qc3 qc4 qc5 qc6 qc7 qc8 qc9 qc10 qc11
    clear br7 bq7
    go_wp2
    (try simp only [Exit.inBlock, Exit.then])
    refine bodyPost_ret (ret_box30 rfl _ _ rfl (setB12 HE.out.2 _ _ _ _ _ _ _ _ _ _ _ _)) rfl ⟨rfl, ?_⟩
    exact Md.toBelow HE.out.1 (setM12 (Md.refl (fun b => b = r) W7) (.inl rfl) _ _ _ _ _ _ _ _ _ _ _ _) (fun b hb he => by have := HF.out; omega) (Nat.le_refl _)
  | some L =>
    rw [hst] at hs5
    have hfn : fn = L.length := (hfl L hst).1
    cases L with
    | nil => exact absurd hst hy
    | cons y L =>
      simp only [List.length_cons] at hfn
      subst hfn
      clear hst
      obtain ⟨W6, hW6⟩ : ∃ W6, W6 = w5.alloc (.cells #[.string (txV (stt l)), .int .i64 (nuV (vs1 (stt l))), .bool (fgV (vs2 (stt l))), .bool (fgV (vs3 (stt l))), .string (txV (vs4 (stt l))), .int .i64 (nuV (vs5 (stt l))), .int .i64 (nuV (vs6 (stt l))), .string (txV (vs7 (stt l))), .slice a8 n8 c8, .slice a9 n9 c9, .int .i64 (nuV (vs10 (stt l))), .int .i64 (nuV (tkS nuG (vs10 (stt l))))] 30) := ⟨_, rfl⟩
      obtain ⟨q, hq⟩ : ∃ q, q = w5.heap.size := ⟨_, rfl⟩
      have bs6 : W6.heap[s]? = some (.cells #[.bool true] 4 (0, 0)) := by rw [hW6, heap_alloc_old _ _ (by have := HF.out; omega)]; exact hs5
      have bf6 : W6.heap[f]? = some (.cells #[.slice fa (L.length + 1) fc] 65 (0, 0)) := by rw [hW6, heap_alloc_old _ _ (by have := HF.out; omega)]; exact hf5
      have br6 : W6.heap[r]? = some (.cells #[.string ⟨#[]⟩, .int .i64 0, .bool false, .bool false, .string ⟨#[]⟩, .int .i64 0, .int .i64 0, .string ⟨#[]⟩, .slice none 0 0, .slice none 0 0, .int .i64 0, .int .i64 0] 30 (0, 0)) := by rw [hW6, heap_alloc_old _ _ (by have := HF.out; omega)]; exact bR5
      have hB6 : Below w.heap.size w W6 := by rw [hW6]; exact hB5.alloc hB5.size _
      have hr6 : r < W6.heap.size := blk_lt br6
      rw [← hW6, ← hq]
      clear hW6 hq hs5 hf5 hfl bR5 hB5 z45 hr5 hm5 hrow hy H5 HY
      have sc0 := cell_blk bs6 0
      simp only [List.getElem?_toArray] at sc0
      have gc0 := cell_blk bf6 0
      simp only [List.getElem?_toArray] at gc0
      have HE6 : Hid (Below w.heap.size w W6 ∧ W6.heap[r]? = some (.cells #[.string ⟨#[]⟩, .int .i64 0, .bool false, .bool false, .string ⟨#[]⟩, .int .i64 0, .int .i64 0, .string ⟨#[]⟩, .slice none 0 0, .slice none 0 0, .int .i64 0, .int .i64 0] 30 (0, 0)) ∧ r < W6.heap.size) := ⟨hB6, br6, hr6⟩
      clear bs6 bf6 br6 hB6 hr6
      go_upto_region 5 with fail
      obtain ⟨W7, hW7⟩ : ∃ W7, W7 = W6.alloc (.cells #[.string ⟨#[]⟩, .int .i64 0, .bool false, .bool false, .string ⟨#[]⟩, .int .i64 0, .int .i64 0, .string ⟨#[]⟩, .slice none 0 0, .slice none 0 0, .int .i64 0, .int .i64 0] 30) := ⟨_, rfl⟩
      obtain ⟨q2, hq2⟩ : ∃ q2, q2 = W6.heap.size := ⟨_, rfl⟩
      rw [← hW7, ← hq2]
      have br7 : W7.heap[r]? = some (.cells #[.string ⟨#[]⟩, .int .i64 0, .bool false, .bool false, .string ⟨#[]⟩, .int .i64 0, .int .i64 0, .string ⟨#[]⟩, .slice none 0 0, .slice none 0 0, .int .i64 0, .int .i64 0] 30 (0, 0)) := by rw [hW7, heap_alloc_old _ _ HE6.out.2.2]; exact HE6.out.2.1
      have bq7 : W7.heap[q2]? = some (.cells #[.string ⟨#[]⟩, .int .i64 0, .bool false, .bool false, .string ⟨#[]⟩, .int .i64 0, .int .i64 0, .string ⟨#[]⟩, .slice none 0 0, .slice none 0 0, .int .i64 0, .int .i64 0] 30 (0, 0)) := by rw [hW7, hq2]; exact heap_alloc_new _ _
      have hld : (loadVar 30 ⟨q2, 0, none⟩).run Tryz.prog W7 = .ok (.agg #[.string ⟨#[]⟩, .int .i64 0, .bool false, .bool false, .string ⟨#[]⟩, .int .i64 0, .int .i64 0, .string ⟨#[]⟩, .slice none 0 0, .slice none 0 0, .int .i64 0, .int .i64 0]) W7 := run_loadVar_row (P := Tryz.prog) W7 q2 30 30 _ (0, 0) _ bq7 Tryz.underlying30 rfl size30
      have HE : Hid (Below w.heap.size w W7 ∧ W7.heap[r]? = some (.cells #[.string ⟨#[]⟩, .int .i64 0, .bool false, .bool false, .string ⟨#[]⟩, .int .i64 0, .int .i64 0, .string ⟨#[]⟩, .slice none 0 0, .slice none 0 0, .int .i64 0, .int .i64 0] 30 (0, 0))) := ⟨by rw [hW7]; exact HE6.out.1.alloc HE6.out.1.size _, br7⟩
      clear hW7 hq2 sc0 gc0 HE6
      have rc0 := cell_blk br7 0
      have rc1 := cell_blk br7 1
      have rc2 := cell_blk br7 2
      have rc3 := cell_blk br7 3
      have rc4 := cell_blk br7 4
      have rc5 := cell_blk br7 5
      have rc6 := cell_blk br7 6
      have rc7 := cell_blk br7 7
      have rc8 := cell_blk br7 8
      have rc9 := cell_blk br7 9
      have rc10 := cell_blk br7 10
      have rc11 := cell_blk br7 11
      have rf0 := frozen_blk br7 0
      have rf1 := frozen_blk br7 1
      have rf2 := frozen_blk br7 2
      have rf3 := frozen_blk br7 3
      have rf4 := frozen_blk br7 4
      have rf5 := frozen_blk br7 5
      have rf6 := frozen_blk br7 6
      have rf7 := frozen_blk br7 7
      have rf8 := frozen_blk br7 8
      have rf9 := frozen_blk br7 9
      have rf10 := frozen_blk br7 10
      have rf11 := frozen_blk br7 11
      simp only [List.getElem?_toArray] at rc0 rc1 rc2 rc3 rc4 rc5 rc6 rc7 rc8 rc9 rc10 rc11
      have qc0 := cell_blk bq7 0
      have qc1 := cell_blk bq7 1
      have qc2 := cell_blk bq7 2
      have qc3 := cell_blk bq7 3
      have qc4 := cell_blk bq7 4
      have qc5 := cell_blk bq7 5
      have qc6 := cell_blk bq7 6
      have qc7 := cell_blk bq7 7
      have qc8 := cell_blk bq7 8
      have qc9 := cell_blk bq7 9
      have qc10 := cell_blk bq7 10
      have qc11 := cell_blk bq7 11
      simp only [List.getElem?_toArray] at qc0 qc1 qc2 qc3 qc4 qc5 qc6 qc7 qc8 qc9 qc10 qc11
      clear br7 bq7
      go_wp2
      (try simp only [Exit.inBlock, Exit.then])
      refine bodyPost_ret (ret_box30 rfl _ _ rfl (setB12 HE.out.2 _ _ _ _ _ _ _ _ _ _ _ _)) rfl ⟨rfl, ?_⟩
      exact Md.toBelow HE.out.1 (setM12 (Md.refl (fun b => b = r) W7) (.inl rfl) _ _ _ _ _ _ _ _ _ _ _ _) (fun b hb he => by have := HF.out; omega) (Nat.le_refl _)
end Go.Proofs.YtbhiabcgjnfpoaaGreatDoor
/-
  slices.Grow and slices.Concat of texts by their contracts.
-/
namespace Go.Proofs.YtbhiabcgjnfpoaaGreatDoor
open Go.RowKit

theorem wpList_append_strs {w : World} {ops : Array Oper} {rest : List Oper} {o : Oper} {a : Act} {Q : Exit → Act → World → Prop} (hgd : o.guard = none) (s x : Operand)
    (ho : o.op = .call { callee := .builtin .append, args := #[s, x], argTypes := #[65, 65] })
    (base : Nat) (v : Value) (l : List ByteArray) (hs : a.eval s = v) (hown : En.OwnS w base v l)
    (xa : Option Addr) (m : List ByteArray) (c : Nat) (hx : a.eval x = .slice xa m.length c) (hm : En.Strs w xa m) (hc : xa = none → c = 0) (hbytes : l.length + m.length ≤ 2000000000) (hbase : base ≤ w.heap.size)
    (h : ∀ v' w', En.OwnS w' base v' (l ++ m) → w.grownBy w' v.ownBlock → wpList Tryz.prog ops Q rest (a.put o.dst v') w') : wpList Tryz.prog ops Q (o :: rest) a w := by
  obtain ⟨i0, hi, hz0, hz1, hz2⟩ := info_parts En.info9
  cases xa with
  | none =>
    obtain rfl : m = [] := by rcases hm with h | ⟨_, _, he, _⟩; exact h; simp at he
    obtain rfl := hc rfl
    refine wpList_append_own_none hgd s x 65 ho base 9 i0 1 Tryz.underlying65 hi v l.length (l.map Value.string) hs hown hx ?_
    exact h v w (by rw [List.append_nil]; exact hown) (World.grownBy.refl _ _)
  | some ad =>
    refine wpList_append_own w hgd s x 65 ho base 9 i0 (.string ⟨#[]⟩) 1 16 Tryz.underlying65 hi hz0 hz1 hz2 rfl (by decide) v l.length (l.map Value.string) hs hown ad m.length c (m.map Value.string) hx (by rw [List.length_map, Nat.mul_one]) ?_ (by intro u hu; simp only [List.mem_map] at hu; obtain ⟨y, _, rfl⟩ := hu; rfl) (by unfold maxLen; omega) (by omega) hbase ?_
    · intro j u hj
      rcases hm with rfl | ⟨b, off, he, _, hcs⟩
      · simp at hj
      · simp only [Option.some.injEq] at he
        subst he
        have hj' : j < m.length := by
          have := (List.getElem?_eq_some_iff.1 hj).1
          rwa [List.length_map] at this
        rw [Addr.add_lit, hcs j hj', ← hj, List.getElem?_map, List.getElem?_eq_getElem hj']
        rfl
    · intro v' w' ho' hg' _
      refine h v' w' ?_ hg'
      unfold En.OwnS
      rw [List.length_append, List.map_append]
      exact ho'

/-- 'append' by its run. -/
theorem wpList_append_run {P : Program} {w : World} {ops : Array Oper} {rest : List Oper} {o : Oper} {a : Act} {Q : Exit → Act → World → Prop} (hgd : o.guard = none) (s x : Operand) (t tn : TypeId)
    (ho : o.op = .call { callee := .builtin .append, args := #[s, x], argTypes := #[t, tn] }) (vs vx : Value) (hs : a.eval s = vs) (hx : a.eval x = vx) (v' : Value) (w' : World)
    (hr : ∀ ty, (Builtin.append_ #[t, tn] ty #[vs, vx]).run P w = .ok v' w') (h : wpList P ops Q rest (a.put o.dst v') w') : wpList P ops Q (o :: rest) a w := by
  refine wpList_plain hgd fun _ hK => ?_
  unfold Oper.wp execOp
  simp only [ho, resolve, invoke, builtin, Sem.run_bind, Sem.run_pure, Result.andThen_ok, List.map_toArray, List.map_cons, List.map_nil, hs, hx, hr]
  exact hK _ _ h
theorem zeroCells_size (n : Nat) : (Builtin.zeroCells (Value.string ⟨#[]⟩).cells n).size = n := by simp [Builtin.zeroCells, Value.cells]

set_option maxHeartbeats 1000000 in
set_option maxRecDepth 20000 in
theorem grow_any (n : Nat) (w : World) (hn : n ≤ 1000000000) :
    Calls Tryz.prog 117 #[.slice none 0 0, .int .i64 (n : Int)] w fun e w' => ∃ v, e = .returned v ∧ En.OwnS w' w.heap.size v [] ∧ Below w.heap.size w w' := by
  obtain ⟨i0, hi, hz0, hz1, hz2⟩ := info_parts En.info9
  by_cases h0 : n = 0
  · subst h0
    go_enter Tryz.func117, Tryz.ntmps117
    go_wp2
    go_ret
    exact ⟨_, rfl, World.ownsRow_nil _ _ _ _, Below.refl _ _⟩
  · have hpos : (0 : Int) < (n : Int) := by omega
    have hrun : ∀ ty, (Builtin.append_ #[65, 3] ty #[.slice none 0 0, .int .i64 (n : Int)]).run Tryz.prog w = .ok (.slice (some ⟨w.heap.size, 0, none⟩) n (grownCap w n 0 9)) (w.drew.alloc (.cells (Builtin.zeroCells (Value.string ⟨#[]⟩).cells n ++ Builtin.zeroCells (Value.string ⟨#[]⟩).cells (grownCap w n 0 9 - n)) 9)) :=
      fun ty => Lib.run_append_nil_zeros w 65 3 ty 9 i0 (.string ⟨#[]⟩) .i64 .i64 Tryz.underlying65 Tryz.underlying3 hi hz0 n (by omega) (by omega) (by omega) (by rw [hz2]; omega)
    have hG : n ≤ grownCap w n 0 9 := grownCap_ge w _ _ _
    have hG2 := grownCap_le_maxLen w n 0 9 (by unfold maxLen; omega)
    obtain ⟨c, hc⟩ : ∃ c, c = grownCap w n 0 9 := ⟨_, rfl⟩
    rw [← hc] at hrun hG hG2
    have hrow : (w.drew.alloc (.cells (Builtin.zeroCells (Value.string ⟨#[]⟩).cells n ++ Builtin.zeroCells (Value.string ⟨#[]⟩).cells (c - n)) 9)).ownsRow w.heap.size 9 1 (.slice (some ⟨w.heap.size, 0, none⟩) 0 c) 0 [] := by
      refine ⟨rfl, .inr ⟨w.heap.size, c, _, rfl, Nat.le_refl _, heap_alloc_new w.drew _, Nat.zero_le _, hG2, ?_, by simp⟩⟩
      rw [Array.size_append, zeroCells_size, zeroCells_size]
      omega
    have hbel : Below w.heap.size w (w.drew.alloc (.cells (Builtin.zeroCells (Value.string ⟨#[]⟩).cells n ++ Builtin.zeroCells (Value.string ⟨#[]⟩).cells (c - n)) 9)) := ((Below.refl _ w).drew).alloc (Nat.le_refl _) _
    obtain ⟨w1, hw1⟩ : ∃ w1, w1 = w.drew.alloc (.cells (Builtin.zeroCells (Value.string ⟨#[]⟩).cells n ++ Builtin.zeroCells (Value.string ⟨#[]⟩).cells (c - n)) 9) := ⟨_, rfl⟩
    rw [← hw1] at hrun hrow hbel
    have HR := (show Hid _ from hrun)
    have HX : Hid (w1.ownsRow w.heap.size 9 1 (.slice (some ⟨w.heap.size, 0, none⟩) 0 c) 0 [] ∧ Below w.heap.size w w1) := ⟨hrow, hbel⟩
    clear hc h0 hrun hrow hbel hw1
    go_enter Tryz.func117, Tryz.ntmps117
    go_wp2_with (at_builtin; refine wpList_append_run rfl (.tmp 20) (.tmp 21) 65 3 rfl (.slice none 0 0) (.int .i64 (n : Int)) rfl rfl (.slice (some ⟨w.heap.size, 0, none⟩) n c) w1 HR.out ?_)
    go_ret
    exact ⟨_, rfl, HX.out.1, HX.out.2⟩

/-- A slice of texts, told. -/
structure Sl where
  a : Option Addr
  l : List ByteArray
  c : Nat
def Sl.v (s : Sl) : Value := .slice s.a s.l.length s.c
/-- A row of such slices. -/
def Rws (w : World) (b : Nat) (xs : List Sl) : Prop :=
  b < w.heap.size ∧ ∀ j (h : j < xs.length), w.cell? ⟨b, j, none⟩ = some xs[j].v ∧ En.Strs w xs[j].a xs[j].l ∧ (xs[j].a = none → xs[j].c = 0)
def cat (xs : List Sl) : List ByteArray := xs.flatMap (·.l)
theorem cat_take {xs : List Sl} {k : Nat} (h : k < xs.length) : cat (xs.take (k + 1)) = cat (xs.take k) ++ xs[k].l := by
  rw [List.take_succ_eq_append_getElem h, cat, cat, List.flatMap_append]
  simp
theorem cat_len (xs : List Sl) (k : Nat) : (cat (xs.take k)).length ≤ (cat xs).length := by
  have e : cat xs = cat (xs.take k) ++ cat (xs.drop k) := by rw [cat, cat, cat, ← List.flatMap_append, List.take_append_drop]
  rw [e, List.length_append]
  omega

set_option maxHeartbeats 2000000 in
set_option maxRecDepth 20000 in
theorem concat_any (b : Nat) (xs : List Sl) (cap : Nat) (w : World) (hx : Rws w b xs) (hn : xs.length ≤ 1000) (ht : (cat xs).length ≤ 1000000000) :
    Calls Tryz.prog 85 #[.slice (some ⟨b, 0, none⟩) xs.length cap] w fun e w' => ∃ v, e = .returned v ∧ En.OwnS w' w.heap.size v (cat xs) ∧ Below w.heap.size w w' := by
  have hgr := grow_any (cat xs).length w (by omega)
  have HG := (show Hid _ from hgr)
  have HX : Hid (Rws w b xs) := hx
  clear hgr hx
  go_enter Tryz.func85, Tryz.ntmps85
  go_wp2
  go_loop [3, 11] (fun n i => ∃ k : Nat, k ≤ xs.length ∧ i = .int .i64 k ∧ n = .int .i64 ((cat (xs.take k)).length : Int)) (fun _ i => xs.length - (intOf i).toNat)
  case atStart => exact ⟨0, Nat.zero_le _, rfl, rfl⟩
  case round =>
    obtain ⟨k, hk, rfl, rfl⟩ := hrel
    have hle := cat_len xs k
    by_cases hlt : k < xs.length
    · have hc := (HX.out.2 k hlt).1
      have hs := cat_take hlt
      have hle2 := cat_len xs (k + 1)
      rw [hs, List.length_append] at hle2
      obtain ⟨s, hse⟩ : ∃ s, s = xs[k] := ⟨_, rfl⟩
      rw [← hse, Sl.v] at hc
      rw [← hse] at hs hle2
      have hki : (k : Int) < (xs.length : Int) := by omega
      have HS : Hid (cat (xs.take (k + 1)) = cat (xs.take k) ++ s.l) := hs
      obtain ⟨n0, hn0⟩ : ∃ n0, n0 = (cat (xs.take k)).length := ⟨_, rfl⟩
      rw [← hn0] at hle hle2 ⊢
      have HN0 : Hid (n0 = (cat (xs.take k)).length) := hn0
      have hneg : ¬ ((n0 : Int) + (s.l.length : Int) < 0) := by omega
      clear hs hse hn0
      go_wp2
      go_round
      case rel => exact ⟨k + 1, by omega, by go_num, by rw [HS.out, List.length_append, ← HN0.out]; go_num⟩
      case measure => simp [intOf]; omega
    · obtain rfl : k = xs.length := by omega
      rw [List.take_length]
      clear hle hlt hk
      go_wp2_with fail
      refine Calls.mono HG.out ?_
      rintro e w1 ⟨v1, rfl, ho1, hb1⟩
      have HO1 : Hid (En.OwnS w1 w.heap.size v1 [] ∧ Below w.heap.size w w1) := ⟨ho1, hb1⟩
      clear ho1 hb1
      go_wp2
      go_loopw [6, 27] (fun v i wr => ∃ k : Nat, k ≤ xs.length ∧ i = .int .i64 k ∧ En.OwnS wr w.heap.size v (cat (xs.take k)) ∧ Below w.heap.size w wr) (fun _ i _ => xs.length - (intOf i).toNat)
      case atStart => exact ⟨0, Nat.zero_le _, rfl, HO1.out.1, HO1.out.2⟩
      case round =>
        obtain ⟨k, hk, rfl, hown, hnx⟩ := hrel
        clear HO1
        have hle := cat_len xs k
        by_cases hlt : k < xs.length
        · obtain ⟨hc, hby, hno⟩ := HX.out.2 k hlt
          have hs := cat_take hlt
          have hle2 := cat_len xs (k + 1)
          rw [hs, List.length_append] at hle2
          have hcr := (hnx.cell (p := ⟨b, k, none⟩) HX.out.1).trans hc
          obtain ⟨s, hse⟩ : ∃ s, s = xs[k] := ⟨_, rfl⟩
          rw [← hse, Sl.v] at hcr
          rw [← hse] at hs hle2 hby hno
          have hbr : En.Strs wr s.a s.l := hby.below hnx (Nat.le_refl _)
          have hki : (k : Int) < (xs.length : Int) := by omega
          have HS : Hid (cat (xs.take (k + 1)) = cat (xs.take k) ++ s.l) := hs
          have hsz := hnx.size
          have HOB : Hid (∀ j, u6.ownBlock = some j → w.heap.size ≤ j) := fun j hj => (hown.lt j hj).1
          clear hs hse hc
          go_wp2_with (at_builtin; refine wpList_append_strs rfl (.tmp 31) (.tmp 32) rfl w.heap.size _ (cat (xs.take k)) rfl hown s.a s.l s.c rfl hbr hno (by omega) hsz ?_; intro v2 w2 ho2 hg2)
          go_roundw
          case rel => exact ⟨k + 1, by omega, by go_num, by rw [HS.out]; exact ho2, hnx.grown hg2 hsz HOB.out⟩
          case measure => simp [intOf]; omega
        · obtain rfl : k = xs.length := by omega
          rw [List.take_length] at hown
          go_wp2
          go_ret
          exact ⟨_, rfl, hown, hnx⟩
end Go.Proofs.YtbhiabcgjnfpoaaGreatDoor
