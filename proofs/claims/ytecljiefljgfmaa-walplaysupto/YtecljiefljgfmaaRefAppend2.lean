/-
  The document's Append by its contract where the frame is laid.
-/
import Derived.Test.YtecljiefljgfmaaRun26
import Derived.Deep.CutRange
import Derived.Deep.CutBlock
import Derived.Deep.RegionWith
import Derived.BigRegion
import Derived.Deep.DeepCutAuto
namespace Go.Proofs.Ytecljiefljgfmaa
open Go.RowKit

theorem Pair.turnK {w wr w2 : World} {d r m : Nat} {K : Nat → Prop} {M : D} {N : R} (h : Pair w wr d r K M N) (hm : K m) (hw : w.heap.size ≤ m) (ht : Turn (fun k => k = m) wr w2) : Pair w w2 d r K M N := by
  obtain ⟨F, G, h1, h2, h3, h4, h5, h6⟩ := h
  have hs := ht.size
  exact ⟨F, G, h1.other ht (fun k hk e => (h3 k hk).2.2 (e ▸ hm)), h2.other ht (fun k hk e => (h4 k hk).2 (e ▸ hm)), h3, h4, fun j hj => Nat.lt_of_lt_of_le (h5 j hj) hs, h6.trans (ht.below (fun k hk => by rw [hk]; exact hw) h6.size)⟩

/-- What the document's Append has done. -/
def RAp (w ws : World) (d r m p n : Nat) (K : Nat → Prop) (M : D) (R : Int × R × G) (e : Ending) (w' : World) : Prop :=
  e = .returned (.int .i64 R.1) ∧ Pair w w' d r K M R.2.1 ∧ RLogG w' m r p n R.2.2 ∧ ∀ j, K j → j ≠ m → w'.heap[j]? = ws.heap[j]?

section
variable {w ws : World} {d r m bb cb p n ep nx us : Nat} {K : Nat → Prop} {M : D} {N : R} {L : List ByteArray}

theorem rap_fail (hK : K m) (hw : w.heap.size ≤ m) (hm : RLog ws m r p n ep nx us false) (hfit : needN L ≤ n - us) (hus : us ≤ n) {q : World} {N' : R} {E : Int} {b : List UInt8} (hA : ASt w ws q d r bb cb K M N' b) (hl : rlayF N ⟨p + us, p + n, ep, nx, false⟩ (padB ⟨p + us, p + n, ep, nx, false⟩ L) (needN L) = (E, N')) (hE : E ≠ 0) :
    RAp w ws d r m p n K M (rapF N ⟨p + us, p + n, ep, nx, false⟩ L) (.returned (.int .i64 E)) (q.setCell ⟨m, 6, none⟩ (.bool true)) := by
  have hr : rapF N ⟨p + us, p + n, ep, nx, false⟩ L = (E, N', ⟨p + us, p + n, ep, nx, true⟩) := by
    rw [rapF, if_neg (by simp), if_neg (by show ¬ p + n - (p + us) < needN L; omega), hl, if_pos hE]
  have hq : RLog q m r p n ep nx us false := (hA.same m hK).trans hm
  have hT : Turn (fun k => k = m) q (q.setCell ⟨m, 6, none⟩ (.bool true)) := (Turn.refl (fun k => k = m) q).setCell (p := ⟨m, 6, none⟩) rfl _
  rw [hr]
  refine ⟨rfl, (hA.pair.less (fun j hj => .inl hj)).turnK hK hw hT, ?_, fun j hj hn => ?_⟩
  · show RLog _ m r p n ep nx (p + us - p) true
    rw [show p + us - p = us from by omega]
    have e1 := set_blk hq 6 (.bool true)
    rw [RLog, e1]
    simp
  · have hlt : j < q.heap.size := by
      have hp := hA.pair
      obtain ⟨F, G, _, _, _, _, h5, _⟩ := hp
      exact h5 j (.inl hj)
    exact (hT.block j hlt hn).trans (hA.same j hj)
theorem rap_done (hK : K m) (hw : w.heap.size ≤ m) (hm : RLog ws m r p n ep nx us false) (hfit : needN L ≤ n - us) (hus : us ≤ n) {q : World} {N' : R} {b : List UInt8} (hA : ASt w ws q d r bb cb K M N' b) (hl : rlayF N ⟨p + us, p + n, ep, nx, false⟩ (padB ⟨p + us, p + n, ep, nx, false⟩ L) (needN L) = (0, N')) :
    RAp w ws d r m p n K M (rapF N ⟨p + us, p + n, ep, nx, false⟩ L) (.returned (.int .i64 0)) ((q.setCell ⟨m, 5, none⟩ (.int .i64 ((us : Int) + (needN L : Int)))).setCell ⟨m, 4, none⟩ (.int .u64 ((nx : Int) + 1))) := by
  have hr : rapF N ⟨p + us, p + n, ep, nx, false⟩ L = (0, N', ⟨p + us + needN L, p + n, ep, nx + 1, false⟩) := by
    rw [rapF, if_neg (by simp), if_neg (by show ¬ p + n - (p + us) < needN L; omega), hl, if_neg (by simp)]
    rfl
  have hq : RLog q m r p n ep nx us false := (hA.same m hK).trans hm
  have hT : Turn (fun k => k = m) q ((q.setCell ⟨m, 5, none⟩ (.int .i64 ((us : Int) + (needN L : Int)))).setCell ⟨m, 4, none⟩ (.int .u64 ((nx : Int) + 1))) := ((Turn.refl (fun k => k = m) q).setCell (p := ⟨m, 5, none⟩) rfl _).setCell (p := ⟨m, 4, none⟩) rfl _
  rw [hr]
  refine ⟨rfl, (hA.pair.less (fun j hj => .inl hj)).turnK hK hw hT, ?_, fun j hj hn => ?_⟩
  · show RLog _ m r p n ep (nx + 1) (p + us + needN L - p) false
    rw [show p + us + needN L - p = us + needN L from by omega]
    have e1 := set_blk hq 5 (.int .i64 ((us : Int) + (needN L : Int)))
    have e2 := set_blk e1 4 (.int .u64 ((nx : Int) + 1))
    rw [RLog, e2]
    simp
  · have hlt : j < q.heap.size := by
      have hp := hA.pair
      obtain ⟨F, G, _, _, _, _, h5, _⟩ := hp
      exact h5 j (.inl hj)
    exact (hT.block j hlt hn).trans (hA.same j hj)
end

theorem fsecs_next {P : List UInt8} {k j : Nat} (h : j < k) : (fsecs P k).drop j = fsecB P j :: (fsecs P k).drop (j + 1) := by
  rw [List.drop_eq_getElem_cons (by simp [fsecs]; exact h)]
  congr 1
  simp [fsecs]
theorem fsecs_len (P : List UInt8) (k : Nat) : (fsecs P k).length = k := by simp [fsecs]

theorem rwrs_fail {N N' : R} {p : Nat} {D : List ByteArray} {E : Int} (h : rwrs N p D = (E, N')) (hE : E ≠ 0) (zs : List ByteArray) : rwrs N p (D ++ zs) = (E, N') := by
  rw [rwrs_append, h, if_pos hE]
theorem rwrs_on {N N' : R} {p : Nat} {D : List ByteArray} (h : rwrs N p D = (0, N')) (zs : List ByteArray) : rwrs N p (D ++ zs) = rwrs N' (p + D.length) zs := by
  rw [rwrs_append, h, if_neg (by simp)]
theorem rwrs_one (N : R) (p : Nat) (x : ByteArray) : rwrs N p [x] = N.wr (p : Int) x := by
  rw [rwrs]
  split
  · rfl
  · rename_i h
    have h0 : (N.wr (p : Int) x).1 = 0 := Classical.not_not.1 h
    rw [rwrs, ← h0]

/-- Between two rounds of the document's writes. -/
structure AL (w ws q : World) (d r bb cb : Nat) (K : Nat → Prop) (M : D) (N : R) (b P : List UInt8) (k t j : Nat) (E : Int) (N' : R) : Prop where
  st : ASt w ws q d r bb cb K M N' b
  top : N'.W.length ≤ N.W.length + j
  rel : (E = 0 ∧ rwrs N (t + 1) ((fsecs P k).drop 1) = rwrs N' (t + j) ((fsecs P k).drop j)) ∨ (E ≠ 0 ∧ rwrs N (t + 1) ((fsecs P k).drop 1) = (E, N'))
/-- Behind the sectors that come ahead of the first. -/
structure AC (w ws q : World) (d r bb cb : Nat) (K : Nat → Prop) (M : D) (N : R) (b : List UInt8) (p : Nat) (xs : List ByteArray) (E : Int) (N' : R) : Prop where
  st : ASt w ws q d r bb cb K M N' b
  top : N'.W.length ≤ N.W.length + 5000
  eq : rwrs N p xs = (E, N')

set_option maxHeartbeats 8000000 in
set_option maxRecDepth 20000 in
theorem rappend_go {w ws : World} {d r m : Nat} {K : Nat → Prop} {M : D} {N : R} (h : Pair w ws d r K M N) (p n ep nx us : Nat) (hK : K m) (hw : w.heap.size ≤ m) (hm : RLog ws m r p n ep nx us false) (hus : us ≤ n) (hn : p + n ≤ 4096) (hep : ep < 18446744073709551616) (hnx : nx < 4294967296) (a : Option Addr) (L : List ByteArray) (cap : Nat) (hL : Strs ws a L) (ht : tot L ≤ 8388608) (hfit : needN L ≤ n - us) (hW : N.W.length ≤ 10000) :
    Calls Try.prog 16 #[.pointer (some ⟨m, 0, none⟩), .slice a L.length cap] ws fun e w' => RAp w ws d r m p n K M (rapF N ⟨p + us, p + n, ep, nx, false⟩ L) e w' := by
  obtain ⟨g, hg⟩ : ∃ g : G, g = ⟨p + us, p + n, ep, nx, false⟩ := ⟨_, rfl⟩
  have c6 := cell_blk hm 6
  simp only [List.getElem?_toArray] at c6
  have hne := refNeed_any a L cap ws ht hL
  have HRM : Hid (∀ q, Below ws.heap.size ws q → Calls Try.prog 27 #[.pointer (some ⟨m, 0, none⟩)] q fun e w' => e = .returned (.int .i64 ((n - us : Nat) : Int)) ∧ w' = q.drew) := fun q hq => refRoom_any m r p n ep nx us false q ((hq.block m (Array.getElem?_eq_some_iff.1 hm).1).trans hm) hus (by omega)
  obtain ⟨k, hk⟩ : ∃ k, k = needN L := ⟨_, rfl⟩
  obtain ⟨rm, hrm⟩ : ∃ rm, rm = n - us := ⟨_, rfl⟩
  obtain ⟨tl, htl⟩ : ∃ tl, tl = tot L := ⟨_, rfl⟩
  obtain ⟨u, hu⟩ : ∃ u, u = 24 + tl := ⟨_, rfl⟩
  obtain ⟨b, hb⟩ : ∃ b, b = frameB g L := ⟨_, rfl⟩
  obtain ⟨P, hP⟩ : ∃ P, P = padB g L := ⟨_, rfl⟩
  have hbl : b.length = u := by rw [hb, frameB_length, hu, htl]
  have hpt : padTo b = P := by rw [hb, hP]; exact padTo_code g L
  have hk1 : 1 ≤ k := by rw [hk]; exact need_pos L
  have hku : ∀ j, j < k → 256 * j < u := fun j hj => by rw [hk, needN] at hj; unfold sect at hj; omega
  have HLG : Hid (∀ q : World, (∀ j, K j → q.heap[j]? = ws.heap[j]?) → q.cell? ⟨m, 0, none⟩ = some (.pointer (some ⟨r, 0, none⟩)) ∧ q.cell? ⟨m, 1, none⟩ = some (.int .i64 (p : Int)) ∧ q.cell? ⟨m, 2, none⟩ = some (.int .i64 (n : Int)) ∧ q.cell? ⟨m, 3, none⟩ = some (.int .u64 (ep : Int)) ∧ q.cell? ⟨m, 4, none⟩ = some (.int .u64 (nx : Int)) ∧ q.cell? ⟨m, 5, none⟩ = some (.int .i64 (us : Int)) ∧ q.cell? ⟨m, 6, none⟩ = some (.bool false) ∧ (∀ i, q.frozen? ⟨m, i, none⟩ = false)) := (by
    intro q hq
    have hmq : RLog q m r p n ep nx us false := (hq m hK).trans hm
    exact ⟨cell_blk hmq 0, cell_blk hmq 1, cell_blk hmq 2, cell_blk hmq 3, cell_blk hmq 4, cell_blk hmq 5, cell_blk hmq 6, fun i => frozen_blk hmq i⟩)
  have HLB : Hid (∀ q, Below ws.heap.size ws q → ∀ j, K j → q.heap[j]? = ws.heap[j]?) := (by
    intro q hq j hj
    obtain ⟨F, G, _, _, _, _, h5, _⟩ := h
    exact hq.block j (h5 j hj))
  have HPK : Hid (∀ q, Below ws.heap.size ws q → Calls Try.prog 50 #[.slice a L.length cap] q fun e w5 => ∃ a5 c5, e = .returned (.slice a5 tl c5) ∧ (∀ j, K j → w5.heap[j]? = ws.heap[j]?) ∧ Calls Try.prog 49 #[.int .u64 (ep : Int), .int .u64 (nx : Int), .slice a5 tl c5] w5 fun e w6 => ∃ bb cb, e = .returned (.slice (some ⟨bb, 0, none⟩) u cb) ∧ ASt w ws w6 d r bb cb K M N b) := (by
    intro q hq
    refine Calls.mono (refPack_any a L cap q ht (hL.below hq (Nat.le_refl _))) ?_
    rintro e w5 ⟨v, rfl, ho, hb5⟩
    obtain ⟨a5, c5, rfl, hby, hno, _⟩ := ho.open
    have hb05 : Below ws.heap.size ws w5 := hq.trans (hb5.mono hq.size)
    refine ⟨a5, c5, by rw [packL_length, htl], HLB.out w5 hb05, ?_⟩
    have hfr := refFrame_any ep nx a5 (packL L) c5 w5 hep (by omega) hby (by rw [packL_length]; omega) hno
    rw [packL_length, ← htl] at hfr
    refine Calls.mono hfr ?_
    rintro e w6 ⟨v6, rfl, ho6, hb6⟩
    have hd : dFrame ep nx (packL L) = b := by rw [hb, ← dFrame_code, hg]
    rw [hd] at ho6
    obtain ⟨bb, cb, rfl, hbb⟩ := ho6.addr (by rw [hbl, hu]; omega)
    have hlt := (owns_lt ho6 bb rfl)
    have hb06 : Below ws.heap.size ws w6 := hb05.trans (hb6.mono hb05.size)
    have hz := hb05.size
    refine ⟨bb, cb, by rw [hbl], ?_, own_bytes ho6, HLB.out w6 hb06⟩
    exact h.wider hb06 (fun j hj => by
      rcases hj with hj | hj
      · exact .inl hj
      · exact .inr ⟨by omega, by omega⟩))
  have HFAIL : Hid (∀ {bb cb : Nat} {q : World} {N' : R} {E : Int}, ASt w ws q d r bb cb K M N' b → rlayF N g P k = (E, N') → E ≠ 0 → RAp w ws d r m p n K M (rapF N g L) (.returned (.int .i64 E)) (q.setCell ⟨m, 6, none⟩ (.bool true))) := (by
    intro bb cb q N' E hA hl hE
    rw [hg] at hl ⊢
    rw [hP, hk, hg] at hl
    exact rap_fail hK hw hm hfit hus hA hl hE)
  have HDONE : Hid (∀ {bb cb : Nat} {q : World} {N' : R}, ASt w ws q d r bb cb K M N' b → rlayF N g P k = (0, N') → RAp w ws d r m p n K M (rapF N g L) (.returned (.int .i64 0)) ((q.setCell ⟨m, 5, none⟩ (.int .i64 ((us : Int) + (k : Int)))).setCell ⟨m, 4, none⟩ (.int .u64 ((nx : Int) + 1)))) := (by
    intro bb cb q N' hA hl
    rw [hg] at hl ⊢
    rw [hP, hk, hg] at hl
    rw [hk]
    exact rap_done hK hw hm hfit hus hA hl)
  obtain ⟨t, htt⟩ : ∃ t, t = p + us := ⟨_, rfl⟩
  obtain ⟨more, hmore⟩ : ∃ more : Bool, more = decide (us + k < n) := ⟨_, rfl⟩
  have HLAY : Hid (rlayF N g P k = if (rwrsF N (t + 1) ((fsecs P k).drop 1 ++ if more then [zsec] else [])).1 ≠ 0 then rwrsF N (t + 1) ((fsecs P k).drop 1 ++ if more then [zsec] else []) else rwrsF (rwrsF N (t + 1) ((fsecs P k).drop 1 ++ if more then [zsec] else [])).2 t [fsecB P 0]) := (show _ = _ from by
    have e1 : decide (k < g.fin - g.at') = more := by rw [hmore, hg, decide_eq_decide]; show k < p + n - (p + us) ↔ _; omega
    rw [rlayF, behind, e1, htt, hg])
  rw [← hg]
  rw [← hk] at hne hfit
  rw [← hrm] at HRM hfit
  have hi : ¬ (rm : Int) < (k : Int) := by omega
  have ht2 : (p : Int) + (us : Int) = (t : Int) := by omega
  have hwp : IntKind.i64.wrap ((p : Int) + (us : Int)) = (p : Int) + (us : Int) := by rw [IntKind.wrap_i64]; omega
  have hwt : IntKind.i64.wrap (t : Int) = (t : Int) := by rw [IntKind.wrap_i64]; omega
  have ht4 : t ≤ 4096 := by omega
  have hk4 : k ≤ 4096 := by omega
  have hus4 : us ≤ 4096 := by omega
  have hn4 : n ≤ 4096 := by omega
  have hu9 : u ≤ 100000000 := by omega
  have HKU : Hid (∀ j, j < k → 256 * j < u) := hku
  have HBL : Hid (b.length = u ∧ padTo b = P) := ⟨hbl, hpt⟩
  have HKU2 : Hid (more = decide (us + k < n)) := hmore
  clear h hK hw hm hL hk hrm htl hu hb hP hbl hpt hku htt hg hmore hfit
  go_enter Try.func16, Try.ntmps16
  go_upto_region 6 with (first
    | (go_at_call 18; (with_reducible refine Calls.mono hne ?_); rintro e w1 ⟨rfl, hb1⟩; have hrm := HRM.out w1 hb1)
    | (go_at_call 27; (with_reducible refine Calls.mono hrm ?_); rintro e w2 ⟨rfl, rfl⟩))
  obtain ⟨Z, hZ⟩ : ∃ Z, Z = w1.drew := ⟨_, rfl⟩
  have hbZ : Below ws.heap.size ws Z := by rw [hZ]; exact hb1.drew
  rw [← hZ]
  have HPZ := (show Hid _ from HPK.out Z.drew hbZ.drew)
  obtain ⟨_, _, _, z3, z4, _⟩ := HLG.out Z (HLB.out Z hbZ)
  obtain ⟨_, _, _, y3, y4, _⟩ := HLG.out Z.drew (HLB.out Z.drew hbZ.drew)
  clear hZ hbZ hb1 hrm hne HRM HPK c6
  go_wp2
  go_region_held3 (fun w' => w'.cell? ⟨m, 3, none⟩ = some (.int .u64 (ep : Int)) ∧ w'.cell? ⟨m, 4, none⟩ = some (.int .u64 (nx : Int))) (go_keep)
    (first
      | (go_at_call 50; refine Calls.mono HPZ.out ?_; rintro e w5 ⟨a5, c5, rfl, hs5, hf5⟩; have s3 := (HLG.out w5 hs5).2.2.2.1; have s4 := (HLG.out w5 hs5).2.2.2.2.1)
      | (go_at_call 49; refine Calls.mono hf5 ?_; rintro e w6 ⟨bb, cb, rfl, hA6⟩; have r3 := (HLG.out w6 hA6.same).2.2.2.1; have r4 := (HLG.out w6 hA6.same).2.2.2.2.1))
  have HA6 : Hid (ASt w ws w6 d r bb cb K M N b) := hA6
  obtain ⟨_, q1, _, _, _, q5, _⟩ := HLG.out w6 hA6.same
  clear s3 s4 r3 r4 z3 z4 y3 y4 hs5 hf5 hA6 HPZ
  go_wp2_with fail
  go_quiet (fail)
  go_wp2
  clear q1 q5 hwp ht2
  go_loopw [8, 9] (fun ev iv q => ∃ (j : Nat) (E : Int) (N' : R), 1 ≤ j ∧ j ≤ k ∧ iv = .int .i64 j ∧ ev = .int .i64 E ∧ AL w ws q d r bb cb K M N b P k t j E N') (fun _ iv _ => k - (intOf iv).toNat)
  case atStart => exact ⟨1, 0, N, Nat.le_refl _, hk1, rfl, rfl, HA6.out.below (below_drewN (Below.refl _ _) _), by omega, .inl ⟨rfl, rfl⟩⟩
  case round =>
    obtain ⟨j, E, N', hj1, hjk, rfl, rfl, hAL⟩ := hrel
    clear HA6
    by_cases hE : E = 0
    · subst hE
      by_cases hlt : j < k
      · have hrel := hAL.rel.resolve_right (fun e => e.1 rfl)
        obtain ⟨_, hrw⟩ := hrel
        rw [fsecs_next hlt, rwrs] at hrw
        have htop := hAL.top
        obtain ⟨X, hX⟩ : ∃ X, X = fsecB P j := ⟨_, rfl⟩
        obtain ⟨y, hy⟩ : ∃ y, y = t + j := ⟨_, rfl⟩
        have hcap := rwr_cap N' (y : Int) X
        obtain ⟨E2, hE2⟩ : ∃ E2, E2 = (N'.wr (y : Int) X).1 := ⟨_, rfl⟩
        obtain ⟨N2, hN2⟩ : ∃ N2, N2 = (N'.wr (y : Int) X).2 := ⟨_, rfl⟩
        have hpair : N'.wr (y : Int) X = (E2, N2) := by rw [hE2, hN2]
        rw [← hX, ← hy, hpair] at hrw
        rw [hpair] at hcap
        have HB : Hid (Calls Try.prog 51 #[.slice (some ⟨bb, 0, none⟩) u cb, .int .i64 (j : Int)] wr.drew fun e q1 => e = .returned (.string X) ∧ (∀ i, K i → q1.heap[i]? = ws.heap[i]?) ∧ Calls Try.prog 22 #[.pointer (some ⟨r, 0, none⟩), .int .i64 ((t : Int) + (j : Int)), .string X] q1 fun e q2 => e = .returned (.int .i64 E2) ∧ ASt w ws q2 d r bb cb K M N2 b) := (by
          have h1 := (hAL.st.below (Below.refl _ wr).drew).part j (by rw [HBL.out.1]; exact HKU.out j hlt) (by rw [HBL.out.1]; exact hu9)
          rw [HBL.out.1, HBL.out.2, ← hX] at h1
          refine Calls.mono h1 ?_
          rintro e q1 ⟨rfl, hA1⟩
          have h2 := hA1.wr (y : Int) X (by omega)
          rw [hpair, show (y : Int) = (t : Int) + (j : Int) from by omega] at h2
          exact ⟨rfl, hA1.same, h2⟩)
        have HN : Hid ((E2 = 0 ∧ rwrs N (t + 1) ((fsecs P k).drop 1) = rwrs N2 (t + (j + 1)) ((fsecs P k).drop (j + 1))) ∨ (E2 ≠ 0 ∧ rwrs N (t + 1) ((fsecs P k).drop 1) = (E2, N2))) := (by
          by_cases h0 : E2 = 0
          · left; exact ⟨h0, by rw [hrw, if_neg (by simpa using h0), hy]; rfl⟩
          · right; exact ⟨h0, by rw [hrw, if_pos h0]⟩)
        have HT : Hid (N2.W.length ≤ N.W.length + (j + 1)) := (show _ ≤ _ from by have : N2.W.length ≤ N'.W.length + 1 := hcap; omega)
        have i0 := (HLG.out wr hAL.st.same).1
        have i1 := (HLG.out wr.drew hAL.st.same).1
        have hwj : IntKind.i64.wrap ((t : Int) + (j : Int)) = (t : Int) + (j : Int) := by rw [IntKind.wrap_i64]; omega
        have hlti : (j : Int) < (k : Int) := by omega
        clear hAL hrw hcap hE2 hN2 hpair hX hy htop
        go_wp2
        go_region_held3 (fun w' => w'.cell? ⟨m, 0, none⟩ = some (.pointer (some ⟨r, 0, none⟩))) (go_keep)
          (first
            | (go_at_call 51; refine Calls.mono HB.out ?_; rintro e w7 ⟨rfl, hs7, hf7⟩; have s0 := (HLG.out w7 hs7).1)
            | (go_at_call 22; refine Calls.mono hf7 ?_; rintro e w8 ⟨rfl, hA8⟩; have s1 := (HLG.out w8 hA8.same).1))
        have HA8 : Hid (ASt w ws w8 d r bb cb K M N2 b) := hA8
        clear hs7 hf7 hA8 s0 s1 i0 i1 HB
        go_wp2
        go_roundw
        case rel => exact ⟨j + 1, E2, N2, by omega, by omega, by go_num, rfl, HA8.out, HT.out, HN.out⟩
        case measure => simp [intOf]; omega
      · obtain rfl : j = k := by omega
        have hrw := (hAL.rel.resolve_right (fun e => e.1 rfl)).2
        rw [show (fsecs P j).drop j = [] from List.drop_eq_nil_of_le (by rw [fsecs_len]; exact Nat.le_refl _), show rwrs N' (t + j) [] = (0, N') from rfl] at hrw
        have hon := rwrs_on hrw (if more then [zsec] else [])
        rw [show ((fsecs P j).drop 1).length = j - 1 from by rw [List.length_drop, fsecs_len], show t + 1 + (j - 1) = t + j from by omega] at hon
        obtain ⟨D', hD'⟩ : ∃ D', D' = (fsecs P j).drop 1 ++ if more then [zsec] else [] := ⟨_, rfl⟩
        rw [← hD'] at hon HLAY
        have HAL : Hid (ASt w ws wr d r bb cb K M N' b ∧ N'.W.length ≤ N.W.length + j) := ⟨hAL.st, hAL.top⟩
        have HON : Hid (rwrs N (t + 1) D' = rwrs N' (t + j) (if more then [zsec] else [])) := hon
        have hjj : ¬ (j : Int) < (j : Int) := by omega
        have HC : Hid (∀ {q N'}, ASt w ws q d r bb cb K M N' b → q.cell? ⟨m, 0, none⟩ = some (.pointer (some ⟨r, 0, none⟩)) ∧ q.cell? ⟨m, 6, none⟩ = some (.bool false) ∧ (∀ i, q.frozen? ⟨m, i, none⟩ = false) ∧ q.cell? ⟨m, 5, none⟩ = some (.int .i64 (us : Int)) ∧ q.cell? ⟨m, 2, none⟩ = some (.int .i64 (n : Int)) ∧ q.cell? ⟨m, 4, none⟩ = some (.int .u64 (nx : Int))) := (by
          intro q N' hA
          have := HLG.out q hA.same
          exact ⟨this.1, this.2.2.2.2.2.2.1, this.2.2.2.2.2.2.2, this.2.2.2.2.2.1, this.2.2.1, this.2.2.2.2.1⟩)
        clear hAL hrw hon hD' hlt hjk
        have hd : decide ((us : Int) + (j : Int) < (n : Int)) = more := by rw [HKU2.out, decide_eq_decide]; omega
        have hwu : IntKind.i64.wrap ((us : Int) + (j : Int)) = (us : Int) + (j : Int) := by rw [IntKind.wrap_i64]; omega
        have i5 := (HC.out HAL.out.1).2.2.2.1
        have i2 := (HC.out HAL.out.1).2.2.2.2.1
        go_upto_region 13 with fail
        go_quiet (fail)
        clear i5 i2 hd hwu
        go_upto_if 74 with fail
        go_cut [8] from 75 to 83 (fun ev wc => ∃ (E1 : Int) (N1 : R), ev = .int .i64 E1 ∧ AC w ws wc d r bb cb K M N b (t + 1) D' E1 N1)
        case first =>
          cases more with
          | true =>
            obtain ⟨Z, hZ⟩ : ∃ Z, Z = wr.drewN nq := ⟨_, rfl⟩
            have hAZ : ASt w ws Z d r bb cb K M N' b := by rw [hZ]; exact HAL.out.1.below (below_drewN (Below.refl _ _) _)
            rw [← hZ]
            obtain ⟨E1, hE1⟩ : ∃ E1, E1 = (N'.wr ((t + j : Nat) : Int) zsec).1 := ⟨_, rfl⟩
            obtain ⟨N1, hN1⟩ : ∃ N1, N1 = (N'.wr ((t + j : Nat) : Int) zsec).2 := ⟨_, rfl⟩
            have hpair : N'.wr ((t + j : Nat) : Int) zsec = (E1, N1) := by rw [hE1, hN1]
            have hcap := rwr_cap N' ((t + j : Nat) : Int) zsec
            rw [hpair] at hcap
            have HB : Hid (Calls Try.prog 51 #[.slice none 0 0, .int .i64 0] Z.drew fun e q1 => e = .returned (.string zsec) ∧ (∀ i, K i → q1.heap[i]? = ws.heap[i]?) ∧ Calls Try.prog 22 #[.pointer (some ⟨r, 0, none⟩), .int .i64 ((t : Int) + (j : Int)), .string zsec] q1 fun e q2 => e = .returned (.int .i64 E1) ∧ ASt w ws q2 d r bb cb K M N1 b) := (by
              refine Calls.mono (hAZ.below (Below.refl _ Z).drew).nil ?_
              rintro e q1 ⟨rfl, hA1⟩
              have h2 := hA1.wr ((t + j : Nat) : Int) zsec (by have := HAL.out.2; omega)
              rw [hpair, show ((t + j : Nat) : Int) = (t : Int) + (j : Int) from by omega] at h2
              exact ⟨rfl, hA1.same, h2⟩)
            have HEQ : Hid (rwrs N (t + 1) D' = (E1, N1) ∧ N1.W.length ≤ N.W.length + 5000) := ⟨by rw [HON.out, if_pos rfl, rwrs_one, hpair], by have := HAL.out.2; have : N1.W.length ≤ N'.W.length + 1 := hcap; omega⟩
            have i0 := (HC.out hAZ).1
            have i1 := (HC.out (hAZ.below (Below.refl _ Z).drew)).1
            have hwj : IntKind.i64.wrap ((t : Int) + (j : Int)) = (t : Int) + (j : Int) := by rw [IntKind.wrap_i64]; omega
            obtain ⟨zs, hzs⟩ : ∃ zs, zs = zsec := ⟨_, rfl⟩
            rw [← hzs] at HB
            clear hZ hAZ hE1 hN1 hpair hcap hzs
            go_wp2
            go_region_held3 (fun w' => w'.cell? ⟨m, 0, none⟩ = some (.pointer (some ⟨r, 0, none⟩))) (go_keep)
              (first
                | (go_at_call 51; refine Calls.mono HB.out ?_; rintro e w7 ⟨rfl, hs7, hf7⟩; have s0 := (HLG.out w7 hs7).1)
                | (go_at_call 22; refine Calls.mono hf7 ?_; rintro e w8 ⟨rfl, hA8⟩; have s1 := (HLG.out w8 hA8.same).1))
            have HA8 : Hid (ASt w ws w8 d r bb cb K M N1 b) := hA8
            clear hs7 hf7 hA8 s0 s1 i0 i1 HB
            go_wp2
            go_meet
            case rel => exact ⟨E1, N1, rfl, HA8.out, HEQ.out.2, HEQ.out.1⟩
          | false =>
            go_wp2
            go_meet
            case rel => exact ⟨0, N', rfl, HAL.out.1.below (below_drewN (Below.refl _ _) _), by have := HAL.out.2; omega, by rw [HON.out, if_neg (by simp), rwrs]⟩
        case rest =>
          obtain ⟨E1, N1, rfl, hAC⟩ := hcut
          have hW1 : N1.W.length ≤ 20000 := by have := hAC.top; omega
          clear HAL HON HKU2
          by_cases hE1 : E1 = 0
          · subst hE1
            obtain ⟨E2, hE2⟩ : ∃ E2, E2 = N1.flush.1 := ⟨_, rfl⟩
            obtain ⟨N2, hN2⟩ : ∃ N2, N2 = N1.flush.2 := ⟨_, rfl⟩
            have hpair : N1.flush = (E2, N2) := by rw [hE2, hN2]
            have hfl := hAC.st.flush (by omega)
            rw [hpair] at hfl
            have HR2 : Hid (rwrsF N (t + 1) D' = (E2, N2)) := (show _ = _ from by rw [rwrsF, hAC.eq, if_neg (by simp), hpair])
            have HFO : Hid (E2 = 0 → N2.W = []) := (by have := rflush_ok N1; rw [hpair] at this; exact this)
            have i0 := (HC.out hAC.st).1
            clear hAC hE2 hN2 hpair
            go_wp2_with fail
            refine Calls.mono hfl ?_
            rintro e w7 ⟨rfl, hA7⟩
            clear hfl i0
            by_cases h2 : E2 = 0
            · subst h2
              obtain ⟨X, hX⟩ : ∃ X, X = fsecB P 0 := ⟨_, rfl⟩
              obtain ⟨E3, hE3⟩ : ∃ E3, E3 = (N2.wr (t : Int) X).1 := ⟨_, rfl⟩
              obtain ⟨N3, hN3⟩ : ∃ N3, N3 = (N2.wr (t : Int) X).2 := ⟨_, rfl⟩
              have hpair : N2.wr (t : Int) X = (E3, N3) := by rw [hE3, hN3]
              have hN3c : N3.W.length ≤ 1 := by
                have := rwr_cap N2 (t : Int) X
                rw [hpair, HFO.out rfl] at this
                simpa using this
              have HB : Hid (Calls Try.prog 51 #[.slice (some ⟨bb, 0, none⟩) u cb, .int .i64 0] w7.drew fun e q1 => e = .returned (.string X) ∧ (∀ i, K i → q1.heap[i]? = ws.heap[i]?) ∧ Calls Try.prog 22 #[.pointer (some ⟨r, 0, none⟩), .int .i64 (t : Int), .string X] q1 fun e q2 => e = .returned (.int .i64 E3) ∧ ASt w ws q2 d r bb cb K M N3 b) := (by
                have h1 := (hA7.below (Below.refl _ w7).drew).part 0 (by rw [HBL.out.1]; exact HKU.out 0 (by omega)) (by rw [HBL.out.1]; exact hu9)
                rw [HBL.out.1, HBL.out.2, ← hX] at h1
                refine Calls.mono h1 ?_
                rintro e q1 ⟨rfl, hA1⟩
                have h2 := hA1.wr (t : Int) X (by rw [HFO.out rfl]; simp)
                rw [hpair] at h2
                exact ⟨rfl, hA1.same, h2⟩)
              have HR3 : Hid (rlayF N g P j = if E3 ≠ 0 then (E3, N3) else N3.flush) := (show _ = _ from by
                rw [HLAY.out, HR2.out, if_neg (by simp), ← hX, rwrsF, rwrs_one, hpair])
              have i0 := (HC.out hA7).1
              have i1 := (HC.out (hA7.below (Below.refl _ w7).drew)).1
              clear hA7 hX hE3 hN3 hpair HFO HR2 HLAY
              go_wp2
              go_region_held3 (fun w' => w'.cell? ⟨m, 0, none⟩ = some (.pointer (some ⟨r, 0, none⟩))) (go_keep)
                (first
                  | (go_at_call 51; refine Calls.mono HB.out ?_; rintro e w8 ⟨rfl, hs8, hf8⟩; have s0 := (HLG.out w8 hs8).1)
                  | (go_at_call 22; refine Calls.mono hf8 ?_; rintro e w9 ⟨rfl, hA9⟩; have s1 := (HLG.out w9 hA9.same).1))
              have HA9 : Hid (ASt w ws w9 d r bb cb K M N3 b) := hA9
              clear hs8 hf8 hA9 s0 s1 i0 i1 HB
              by_cases h3 : E3 = 0
              · subst h3
                obtain ⟨E4, hE4⟩ : ∃ E4, E4 = N3.flush.1 := ⟨_, rfl⟩
                obtain ⟨N4, hN4⟩ : ∃ N4, N4 = N3.flush.2 := ⟨_, rfl⟩
                have hpair : N3.flush = (E4, N4) := by rw [hE4, hN4]
                have hfl := HA9.out.flush (by omega)
                rw [hpair] at hfl
                have HR4 : Hid (rlayF N g P j = (E4, N4)) := (show _ = _ from by rw [HR3.out, if_neg (by simp), hpair])
                have i0 := (HC.out HA9.out).1
                clear hE4 hN4 hpair HR3
                go_wp2_with fail
                refine Calls.mono hfl ?_
                rintro e wA ⟨rfl, hAA⟩
                have HAA : Hid (ASt w ws wA d r bb cb K M N4 b) := hAA
                have k4 := (HC.out hAA).2.2.2.2.2
                have k5 := (HC.out hAA).2.2.2.1
                have c6 := (HC.out hAA).2.1
                have f4 := (HC.out hAA).2.2.1 4
                have f5 := (HC.out hAA).2.2.1 5
                have f6 := (HC.out hAA).2.2.1 6
                clear hfl i0 hAA
                by_cases h4 : E4 = 0
                · subst h4
                  go_wp2
                  go_ret
                  exact HDONE.out HAA.out HR4.out
                · have e0 : (E4 != 0) = true := by rw [bne_iff_ne]; exact h4
                  have HE4 : Hid (E4 ≠ 0) := h4
                  clear h4
                  go_wp2
                  go_ret
                  exact HFAIL.out HAA.out HR4.out HE4.out
              · have e0 : (E3 == 0) = false := by rw [beq_eq_false_iff_ne]; exact h3
                have e1 : (E3 != 0) = true := by rw [bne_iff_ne]; exact h3
                have HE3 : Hid (E3 ≠ 0) := h3
                have c6 := (HC.out HA9.out).2.1
                have f6 := (HC.out HA9.out).2.2.1 6
                clear h3
                go_wp2
                go_ret
                exact HFAIL.out HA9.out (by rw [HR3.out, if_pos HE3.out]) HE3.out
            · have e0 : (E2 == 0) = false := by rw [beq_eq_false_iff_ne]; exact h2
              have e1 : (E2 != 0) = true := by rw [bne_iff_ne]; exact h2
              have HE2 : Hid (E2 ≠ 0) := h2
              have c6 := (HC.out hA7).2.1
              have f6 := (HC.out hA7).2.2.1 6
              have HA7 : Hid (ASt w ws w7 d r bb cb K M N2 b) := hA7
              clear h2 hA7
              go_wp2
              go_ret
              exact HFAIL.out HA7.out (by rw [HLAY.out, HR2.out, if_pos HE2.out]) HE2.out
          · have e0 : (E1 == 0) = false := by rw [beq_eq_false_iff_ne]; exact hE1
            have e1 : (E1 != 0) = true := by rw [bne_iff_ne]; exact hE1
            have HE1 : Hid (E1 ≠ 0) := hE1
            have c6 := (HC.out hAC.st).2.1
            have f6 := (HC.out hAC.st).2.2.1 6
            have HA : Hid (AC w ws wc d r bb cb K M N b (t + 1) D' E1 N1) := hAC
            clear hE1 hAC
            go_wp2
            go_ret
            exact HFAIL.out HA.out.st (by rw [HLAY.out, rwrsF, HA.out.eq, if_pos HE1.out, if_pos HE1.out]) HE1.out
    · have hrel := hAL.rel.resolve_left (fun e => hE e.1)
      have e0 : (E == 0) = false := by rw [beq_eq_false_iff_ne]; exact hE
      have e1 : (E != 0) = true := by rw [bne_iff_ne]; exact hE
      have HEND : Hid (∀ q, Below wr.heap.size wr q → RAp w ws d r m p n K M (rapF N g L) (.returned (.int .i64 E)) (q.setCell ⟨m, 6, none⟩ (.bool true))) := (by
        intro q hq
        refine HFAIL.out (hAL.st.below hq) ?_ hE
        have hf := rwrs_fail hrel.2 hE (if more then [zsec] else [])
        rw [HLAY.out, rwrsF, hf, if_pos hE, if_pos hE])
      have HC6 : Hid (∀ q, Below wr.heap.size wr q → q.cell? ⟨m, 6, none⟩ = some (.bool false) ∧ q.frozen? ⟨m, 6, none⟩ = false) := (by
        intro q hq
        have := HLG.out q (hAL.st.below hq).same
        exact ⟨this.2.2.2.2.2.2.1, this.2.2.2.2.2.2.2 6⟩)
      clear hAL hrel hE HFAIL HDONE
      by_cases hlt : j < k
      · have hlti : (j : Int) < (k : Int) := by omega
        go_upto_region 13 with fail
        go_quiet (fail)
        obtain ⟨c6, f6⟩ := HC6.out (wr.drewN nq) (below_drewN (Below.refl _ _) _)
        go_wp2
        go_ret
        exact HEND.out _ (below_drewN (Below.refl _ _) _)
      · have hlti : ¬ (j : Int) < (k : Int) := by omega
        go_upto_region 13 with fail
        go_quiet (fail)
        obtain ⟨c6, f6⟩ := HC6.out (wr.drewN nq) (below_drewN (Below.refl _ _) _)
        go_wp2
        go_ret
        exact HEND.out _ (below_drewN (Below.refl _ _) _)
end Go.Proofs.Ytecljiefljgfmaa
