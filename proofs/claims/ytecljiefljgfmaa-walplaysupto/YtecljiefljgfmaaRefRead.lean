/-
  The document reads a log's next frame: where it would be too long.
-/
import Derived.Test.YtecljiefljgfmaaRun26
import Derived.Test.YtecljiefljgfmaaRun28
import Derived.Test.YtecljiefljgfmaaRefUnpack
namespace Go.Proofs.Ytecljiefljgfmaa
open Go.RowKit

set_option maxHeartbeats 4000000 in
set_option maxRecDepth 20000 in
theorem rread_big {w wr : World} {d r m : Nat} {K : Nat → Prop} {M : D} {N : R} (h : Pair w wr d r K M N) (hs : Sim M N) (hst : M.st ≠ 2) (hS : ∀ x ∈ M.S, x.size = 256) (hW : N.W.length ≤ 10000) (p n ep nx us : Nat) (dd : Bool) (hm : RLog wr m r p n ep nx us dd) (hn : p + n ≤ M.L.length) (hus : us < n) (ln : Nat) (hln : ln = vl (frHead M.S ⟨p + us, p + n, ep, nx, dd⟩) 4) (hbig : n - us < sect (24 + ln)) :
    Calls Try.prog 45 #[.pointer (some ⟨m, 0, none⟩)] wr fun e w' => e = .returned (.tuple #[.slice none 0 0, .int .i64 0, .int .i64 0]) ∧ Below wr.heap.size wr w' := by
  have hlen := h.ok.len
  have htop := h.ok.top
  have hrd := p_rread ((p + us : Nat) : Int) (h.below (Below.refl _ _).drew) (by omega)
  rw [sim_rd_ok hs hst (i := p + us) (by omega)] at hrd
  have hx256 : (M.S[p + us]'(by omega)).size = 256 := hS _ (List.getElem_mem _)
  obtain ⟨x, hx⟩ : ∃ x, x = M.S[p + us]'(by omega) := ⟨_, rfl⟩
  have hxl : x.data.toList.length = 256 := by rw [hx]; simpa using hx256
  have hvx : vl x.data.toList 4 = ln := by
    rw [hln, frHead, sect24, vl_takeN (by omega), secs, hx]
    show _ = vl (((M.S.drop (p + us)).take 1).flatMap fun x => x.data.toList) 4
    rw [List.drop_eq_getElem_cons (by omega), List.take_succ_cons, List.take_zero, List.flatMap_cons, List.flatMap_nil, List.append_nil]
  rw [← hx] at hrd hx256
  obtain ⟨W1, k1, hcv1, hf1, hb1⟩ := conv_fresh x wr.drew
  rw [hx256] at hcv1
  have hwp : IntKind.i64.wrap ((p : Int) + (us : Int)) = (p : Int) + (us : Int) := by rw [IntKind.wrap_i64]; omega
  rw [show ((p + us : Nat) : Int) = (p : Int) + (us : Int) from by omega] at hrd
  have c0 := cell_blk hm 0
  have c1 := cell_blk hm 1
  have c5 := cell_blk hm 5
  simp only [List.getElem?_toArray] at c0 c1 c5
  have d0 : wr.drew.cell? ⟨m, 0, none⟩ = some (.pointer (some ⟨r, 0, none⟩)) := c0
  have d1 : wr.drew.cell? ⟨m, 1, none⟩ = some (.int .i64 (p : Int)) := c1
  have d5 : wr.drew.cell? ⟨m, 5, none⟩ = some (.int .i64 (us : Int)) := c5
  have HF1 := (show Hid (Fresh W1 wr.drew.heap.size x ∧ Below wr.drew.heap.size wr.drew W1 ∧ RLog wr m r p n ep nx us dd ∧ vl x.data.toList 4 = ln ∧ x.data.toList.length = 256) from ⟨hf1, hb1, hm, hvx, hxl⟩)
  clear h hs hst hm hS hx hlen hf1 hb1 hvx hxl hln hx256
  go_enter Try.func45, Try.ntmps45
  go_wp2
  go_region_held3 (fun w' => w'.cell? ⟨m, 0, none⟩ = some (.pointer (some ⟨r, 0, none⟩)) ∧ w'.cell? ⟨m, 1, none⟩ = some (.int .i64 (p : Int)) ∧ w'.cell? ⟨m, 5, none⟩ = some (.int .i64 (us : Int))) (go_keep)
    (first
      | (go_at_call 59; refine Calls.mono hrd ?_; rintro e w5 ⟨rfl, rfl⟩))
  go_upto_region 5 with fail
  obtain ⟨l, hl⟩ : ∃ l : List UInt8, l = x.data.toList := ⟨_, rfl⟩
  have hby : Bytes W1 (some ⟨wr.heap.size, 0, none⟩) l := by rw [hl]; exact HF1.out.1.bytes
  have hll : l.length = 256 := by rw [hl]; exact HF1.out.2.2.2.2
  obtain ⟨b, off, he, hbb, hcs⟩ := hby.at (k := 0) (by omega)
  have hc : ∀ j (h : j < l.length), W1.cell? ⟨wr.heap.size, j, none⟩ = some (.int .u8 (nb l j)) := fun j h => by
    cases he
    have := hcs j h
    rw [Nat.zero_add] at this
    rw [this, nb_cell h]
  have e0 := hc 0 (by omega)
  have e1 := hc 1 (by omega)
  have e2 := hc 2 (by omega)
  have e3 := hc 3 (by omega)
  have n0 := nb_bd l 0
  have n1 := nb_bd l 1
  have n2 := nb_bd l 2
  have n3 := nb_bd l 3
  have HV : Hid (nb l 0 * 16777216 + nb l 1 * 65536 + nb l 2 * 256 + nb l 3 = (ln : Nat)) := (show _ = _ from by
    have := vl_drop l 0
    rw [List.drop_zero] at this
    rw [← HF1.out.2.2.2.1, ← hl]
    exact this)
  clear he hbb hcs hc hby hl hcv1 c0 c1 c5 d0 d1 d5
  go_wp2_with fail
  go_quiet (fail)
  rw [HV.out]
  have hln4 : ln < 4294967296 := by rw [← HF1.out.2.2.2.1]; exact vl4_bd _
  obtain ⟨Y, hY⟩ : ∃ Y, Y = W1.drewN nq := ⟨_, rfl⟩
  have hBY : Below wr.heap.size wr Y := by
    rw [hY]
    exact below_drewN ((Below.refl _ wr).drew.trans (HF1.out.2.1.mono (Nat.le_refl _))) _
  rw [← hY]
  have hse := refSectors_any (24 + ln) Y (by omega)
  rw [show ((24 + ln : Nat) : Int) = 24 + (ln : Int) from by omega] at hse
  obtain ⟨sk, hsk⟩ : ∃ sk, sk = sect (24 + ln) := ⟨_, rfl⟩
  rw [← hsk] at hse hbig
  have hmy : RLog Y m r p n ep nx us dd := (hBY.block m (Array.getElem?_eq_some_iff.1 HF1.out.2.2.1).1).trans HF1.out.2.2.1
  have k2 := cell_blk hmy 2
  have k5 := cell_blk hmy 5
  simp only [List.getElem?_toArray] at k2 k5
  have hsk4 : sk ≤ 4294967296 := by rw [hsk]; unfold sect; omega
  have hgt : (n : Int) - (us : Int) < (sk : Int) := by omega
  have hwq : IntKind.i64.wrap ((n : Int) - (us : Int)) = (n : Int) - (us : Int) := by rw [IntKind.wrap_i64]; omega
  have HBY : Hid (Below wr.heap.size wr Y) := hBY
  clear e0 e1 e2 e3 n0 n1 n2 n3 HV HF1 hY hBY hsk hmy hll
  go_upto_region 7 with (go_at_call 54; refine Calls.mono hse ?_; rintro e w6 ⟨rfl, rfl⟩)
  go_wp2_with fail
  go_quiet (fail)
  go_wp2
  (try simp only [Exit.inBlock, Exit.then])
  refine bodyPost_ret (v := .tuple #[.slice none 0 0, .int .i64 0, .int .i64 0]) ?_ rfl ⟨rfl, below_drewN HBY.out _⟩
  simp [results, Try.f45]
end Go.Proofs.Ytecljiefljgfmaa
