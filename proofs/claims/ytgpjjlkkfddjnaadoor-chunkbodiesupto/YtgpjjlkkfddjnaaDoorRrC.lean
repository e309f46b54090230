/-
  The document's reader of chunks: size.
-/
import Derived.Test.YtgpjjlkkfddjnaaDoorRrB
namespace Go.Proofs.YtgpjjlkkfddjnaaDoor
open Go.RowKit

theorem sz_end {m : List UInt8} {k : Nat} (h : dnL 8 m = k) (hk : k = m.length) : (szS (m, 0)).2 = 307 := by
  have e : m.drop k = [] := by rw [hk, List.drop_length]
  simp only [szS, h]
  rw [if_pos e]
theorem sz_none {m : List UInt8} (h : dnL 8 m = 0) (hk : 0 ≠ m.length) : (szS (m, 0)).2 = 308 := by
  have e : ¬ m.drop 0 = [] := by
    rw [List.drop_zero]
    intro e
    rw [e] at hk
    exact hk rfl
  simp only [szS, h]
  rw [if_neg e, if_pos trivial]
theorem sz_some {m : List UInt8} {k : Nat} (h : dnL 8 m = k) (hk : k ≠ m.length) (h0 : k ≠ 0) : szS (m, 0) = (m.drop k, 0) := by
  have hle := (dnL_le 8 m).2
  have e : ¬ m.drop k = [] := by
    intro e
    have := congrArg List.length e
    simp only [List.length_drop, List.length_nil] at this
    omega
  simp only [szS, h]
  rw [if_neg e, if_neg h0]
theorem num_snoc {m : List UInt8} {k : Nat} (h : k < m.length) : numL (m.take (k + 1)) = 16 * numL (m.take k) + dvN m[k] := by
  rw [List.take_succ_eq_append_getElem h]
  simp only [numL, List.foldl_append, List.foldl_cons, List.foldl_nil]
  omega
theorem num_le {m : List UInt8} {k : Nat} (h : k ≤ dnL 8 m) : numL (m.take k) < 4294967296 := by
  refine num_small (fun c hc => ?_) ?_
  · refine dg_digits (most := 8) (l := m) c ?_
    rw [show m.take k = (m.take (dnL 8 m)).take k from by rw [List.take_take]; congr; omega] at hc
    exact List.mem_of_mem_take hc
  · have := (dnL_le 8 m).1
    rw [List.length_take]
    omega
set_option maxRecDepth 20000 in
set_option maxHeartbeats 4000000 in
theorem size_any (p B : Nat) (a : Option Addr) (cap : Nat) (l : List UInt8) (k0 : Nat) (w : World) (h : Rr w p B a cap l k0 0) (hl : l.length ≤ 1000000000) :
    Calls Tryd.prog 20 #[.pointer (some ⟨p, 0, none⟩)] w fun e w' => e = .returned (.int .i64 (szN (l.drop k0, 0) : Int)) ∧ Rep w' p B a cap l (szS (l.drop k0, 0)) ∧ Md (· = p) w w' := by
  have HL := (show Hid (l.length ≤ 1000000000) from hl)
  have HR := (show Hid (Rr w p B a cap l k0 0) from h)
  obtain ⟨m, hm⟩ : ∃ m, m = l.drop k0 := ⟨_, rfl⟩
  have HM := (show Hid (m = l.drop k0 ∧ k0 ≤ l.length ∧ m.length = l.length - k0) from ⟨hm, h.kl, by rw [hm, List.length_drop]⟩)
  rw [← hm]
  clear hm h
  go_enter Tryd.func20, Tryd.ntmps20
  go_wp2_with fail
  go_loopw [3, 4] (fun v i wr => ∃ (n k : Nat), k ≤ 8 ∧ v = .int .i64 (n : Int) ∧ i = .int .i64 (k : Int) ∧ Hid (Rr wr p B a cap l (k0 + k) 0 ∧ Md (· = p) w wr ∧ k ≤ dnL 8 m ∧ n = numL (m.take k))) (fun _ i _ => 8 - (intOf i).toNat)
  case atStart => exact ⟨0, 0, by omega, rfl, rfl, ⟨HR.out, Md.refl _ _, Nat.zero_le _, by simp [numL]⟩⟩
  case round =>
    obtain ⟨n, k, hk, rfl, rfl, hi⟩ := hrel
    obtain ⟨c0, c1, c2, f1, f2⟩ := hi.out.1.cells
    have hk0 : (0 : Int) ≤ (k : Int) := by omega
    obtain ⟨q, hq⟩ : ∃ q, q = k0 + k := ⟨_, rfl⟩
    rw [← hq] at c1
    have HQ := (show Hid (q = k0 + k) from hq)
    clear hq
    have hq0 : (0 : Int) ≤ (q : Int) := by omega
    have hql : q ≤ l.length := by have := hi.out.1.kl; have := HQ.out; omega
    by_cases hgo : k < 8 ∧ ∃ h : k < m.length, isDg m[k] = true
    · obtain ⟨hm8, hkm, hd⟩ := hgo
      have HD1 := (show Hid (k + 1 ≤ dnL 8 m) from (dnL_at hi.out.2.2.1).2 ⟨hm8, hkm, hd⟩)
      have hql2 : q < l.length := by have := HQ.out; have := HM.out; omega
      have e9 : m[k] = l[q] := by
        have := HQ.out
        subst this
        have := HM.out.1
        subst this
        rw [List.getElem_drop]
      obtain ⟨b, off, rfl, hbs, hcs⟩ := hi.out.1.by_.at hql2
      have hcell := hcs q hql2
      obtain ⟨c, hc⟩ : ∃ c, c = l[q] := ⟨_, rfl⟩
      have HC := (show Hid (m[k] = c) from by rw [hc]; exact e9)
      rw [← hc] at hcell
      have hdc : isDg c = true := by rw [← HC.out]; exact hd
      have K1 := (show Hid (∀ W, Calls Tryd.prog 42 #[.int .u8 (c.toNat : Int)] W fun e w' => e = .returned (.bool true) ∧ w' = W) from fun W => by have := rdigit_any c W; rw [hdc] at this; exact this)
      have K2 := (show Hid (∀ W, Calls Tryd.prog 43 #[.int .u8 (c.toNat : Int)] W fun e w' => e = .returned (.int .i64 (dvN c : Int)) ∧ w' = W) from fun W => rDigit_any c hdc W)
      have hn9 : n < 4294967296 := by have := num_le hi.out.2.2.1; have := hi.out.2.2.2; omega
      have hn2 : 16 * n + dvN c < 4294967296 := by have := num_le HD1.out; rw [num_snoc hkm, HC.out, ← hi.out.2.2.2] at this; exact this
      clear hcs hbs hd hdc e9 hc
      have hki : (k : Int) < 8 := by omega
      have hqi : (q : Int) < (l.length : Int) := by omega
      obtain ⟨dv, hdv⟩ : ∃ dv, dv = dvN c := ⟨_, rfl⟩
      have HDV := (show Hid (dv = dvN c) from hdv)
      rw [← hdv] at K2 hn2
      clear hdv
      have h16 : IntKind.i64.wrap (16 * (n : Int)) = 16 * (n : Int) := by rw [IntKind.wrap_i64]; omega
      have h17 : IntKind.i64.wrap (16 * (n : Int) + (dv : Int)) = 16 * (n : Int) + (dv : Int) := by rw [IntKind.wrap_i64]; omega
      have h18 : IntKind.i64.wrap ((q : Int) + 1) = ((q + 1 : Nat) : Int) := by have := HL.out; rw [IntKind.wrap_i64]; omega
      have h19 : IntKind.i64.wrap ((k : Int) + 1) = ((k + 1 : Nat) : Int) := by rw [IntKind.wrap_i64]; omega
      clear hn9 hn2
      go_upto_region 3 with fail
      go_region_held3 (fun w' => w'.cell? ⟨p, 0, none⟩ = some (.slice (some ⟨b, off, none⟩) l.length cap) ∧ w'.cell? ⟨p, 1, none⟩ = some (.int .i64 (q : Int)) ∧ w'.cell? ⟨b, off + q, none⟩ = some (.int .u8 (c.toNat : Int))) (go_keep) (first
        | (go_at_call 42; (with_reducible refine Calls.mono (K1.out _) ?_); rintro e w2 ⟨rfl, rfl⟩))
      go_wp2_with fail
      go_upto_region 4 with fail
      go_region_held3 (fun w' => w'.cell? ⟨p, 0, none⟩ = some (.slice (some ⟨b, off, none⟩) l.length cap) ∧ w'.cell? ⟨p, 1, none⟩ = some (.int .i64 (q : Int)) ∧ w'.cell? ⟨b, off + q, none⟩ = some (.int .u8 (c.toNat : Int))) (go_keep) (first
        | (go_at_call 43; (with_reducible refine Calls.mono (K2.out _) ?_); rintro e w2 ⟨rfl, rfl⟩))
      go_wp2_with fail
      go_roundw
      case rel => exact ⟨16 * n + dv, k + 1, by omega, by go_num, by go_num, ⟨hi.out.1.turn ((Md.refl _ _).setp _ _).drew.drew (by have := HQ.out; omega) (by
        show (World.setCell wr ⟨p, 1, none⟩ _).heap[p]? = _
        rw [set_blk hi.out.1.box, show ((k0 + (k + 1) : Nat) : Int) = (q : Int) + 1 from by have := HQ.out; omega]
        rfl), (hi.out.2.1.setp _ _).drew.drew, HD1.out, by rw [num_snoc hkm, HC.out, ← HDV.out, ← hi.out.2.2.2]⟩⟩
      case measure => simp [intOf]; omega
    · have HD := (show Hid (dnL 8 m = k) from dg_no hi.out.2.2.1 hgo)
      have HX := (show Hid (k ≤ 8 ∧ k ≤ m.length ∧ (n : Int) = (szN (m, 0) : Int)) from ⟨hk, Nat.le_trans hi.out.2.2.1 (dnL_le 8 m).2, by rw [szN]; show _ = ((numL (m.take (dnL 8 m)) : Nat) : Int); rw [HD.out, ← hi.out.2.2.2]⟩)
      have FIN := (show Hid (∀ (W W0 : World) (f : Int), Below wr.heap.size wr W0 → W = W0.setCell ⟨p, 2, none⟩ (.int .i64 f) → (szS (m, 0)).2 = f → f ≠ 0 → Rep W p B a cap l (szS (m, 0)) ∧ Md (· = p) w W) from fun W W0 f hb e hf hf0 => by
        subst e
        have hrr := hi.out.1.turn (k' := q) (f' := f) (((Md.refl _ _).below hb).setp 2 (.int .i64 f)) (by have := hi.out.1.kl; have := HQ.out; omega) (by rw [set_blk (hi.out.1.keep hb).box, ← HQ.out]; rfl)
        refine ⟨⟨q, by rw [hf]; exact hrr, fun h => absurd (hf.symm.trans h) hf0⟩, (hi.out.2.1.below hb).setp _ _⟩)
      have FIN0 := (show Hid (∀ (W : World), Below wr.heap.size wr W → szS (m, 0) = (m.drop k, 0) → Rep W p B a cap l (szS (m, 0)) ∧ Md (· = p) w W) from fun W hb hf => by
        have hrr := hi.out.1.keep hb
        rw [hf]
        exact ⟨⟨k0 + k, hrr, fun _ => by rw [HM.out.1, List.drop_drop]⟩, hi.out.2.1.below hb⟩)
      clear hk hgo
      by_cases hk8 : k < 8
      · by_cases hkm : k < m.length
        · have hql2 : q < l.length := by have := HQ.out; have := HM.out; omega
          have e9 : m[k] = l[q] := by
            have := HQ.out
            subst this
            have := HM.out.1
            subst this
            rw [List.getElem_drop]
          obtain ⟨b, off, rfl, hbs, hcs⟩ := hi.out.1.by_.at hql2
          have hcell := hcs q hql2
          obtain ⟨c, hc⟩ : ∃ c, c = l[q] := ⟨_, rfl⟩
          have HC := (show Hid (m[k] = c) from by rw [hc]; exact e9)
          rw [← hc] at hcell
          have hdc : isDg c = false := by
            rw [← HC.out]
            cases hx : isDg m[k] with
            | false => rfl
            | true =>
              have := (dnL_at hi.out.2.2.1).2 ⟨hk8, hkm, hx⟩
              have := HD.out
              omega
          have K1 := (show Hid (∀ W, Calls Tryd.prog 42 #[.int .u8 (c.toNat : Int)] W fun e w' => e = .returned (.bool false) ∧ w' = W) from fun W => by have := rdigit_any c W; rw [hdc] at this; exact this)
          clear hcs hbs hdc e9 hc
          have hki : (k : Int) < 8 := by omega
          have hqi : (q : Int) < (l.length : Int) := by omega
          have hqne : ¬ (q : Int) = (l.length : Int) := by omega
          go_upto_region 3 with fail
          go_region_held3 (fun w' => w'.cell? ⟨p, 0, none⟩ = some (.slice (some ⟨b, off, none⟩) l.length cap) ∧ w'.cell? ⟨p, 1, none⟩ = some (.int .i64 (q : Int)) ∧ w'.cell? ⟨b, off + q, none⟩ = some (.int .u8 (c.toNat : Int))) (go_keep) (first
            | (go_at_call 42; (with_reducible refine Calls.mono (K1.out _) ?_); rintro e w2 ⟨rfl, rfl⟩))
          go_wp2_with fail
          go_quiet (fail)
          by_cases hkz : k = 0
          · have hkz2 : (k : Int) = 0 := by omega
            have HS := (show Hid ((szS (m, 0)).2 = 308) from sz_none (by rw [HD.out]; exact hkz) (by omega))
            clear hkz
            go_wp2_with fail
            go_ret
            refine ⟨by rw [HX.out.2.2]; rfl, FIN.out _ _ 308 ?_ rfl HS.out (by decide)⟩
            exact drewN_below _ _
          · have hkz2 : ¬ (k : Int) = 0 := by omega
            have HS := (show Hid (szS (m, 0) = (m.drop k, 0)) from sz_some HD.out (by omega) hkz)
            clear hkz
            go_wp2_with fail
            go_ret
            refine ⟨by rw [HX.out.2.2]; rfl, FIN0.out _ ?_ HS.out⟩
            exact drewN_below _ _
        · have hki : (k : Int) < 8 := by omega
          have hqe : q = l.length := by have := HQ.out; have := HM.out; have := HX.out.2.1; omega
          have hqe2 : (q : Int) = (l.length : Int) := by omega
          have hqlt : ¬ (q : Int) < (l.length : Int) := by omega
          have HS := (show Hid ((szS (m, 0)).2 = 307) from sz_end HD.out (by have := HX.out.2.1; omega))
          clear hqe hkm hk8 hql
          go_wp2_with fail
          go_quiet (fail)
          go_wp2_with fail
          go_quiet (fail)
          go_wp2_with fail
          go_ret
          refine ⟨by rw [HX.out.2.2]; rfl, FIN.out _ _ 307 ?_ rfl HS.out (by decide)⟩
          exact drewN_below _ _
      · obtain rfl : k = 8 := by have := HX.out.1; omega
        by_cases hqe : q = l.length
        · have hqe2 : (q : Int) = (l.length : Int) := by omega
          have HS := (show Hid ((szS (m, 0)).2 = 307) from sz_end HD.out (by have := HQ.out; have := HM.out; omega))
          clear hqe hk8 hql
          go_wp2_with fail
          go_quiet (fail)
          go_wp2_with fail
          go_quiet (fail)
          go_wp2_with fail
          go_ret
          refine ⟨by rw [HX.out.2.2]; rfl, FIN.out _ _ 307 ?_ rfl HS.out (by decide)⟩
          exact drewN_below _ _
        · have hqe2 : ¬ (q : Int) = (l.length : Int) := by omega
          have HS := (show Hid (szS (m, 0) = (m.drop 8, 0)) from sz_some HD.out (by have := HQ.out; have := HM.out; have := hi.out.1.kl; omega) (by decide))
          clear hqe hk8 hql
          go_wp2_with fail
          go_quiet (fail)
          go_wp2_with fail
          go_quiet (fail)
          go_wp2_with fail
          go_ret
          refine ⟨by rw [HX.out.2.2]; rfl, FIN0.out _ ?_ HS.out⟩
          exact drewN_below _ _
end Go.Proofs.YtgpjjlkkfddjnaaDoor
