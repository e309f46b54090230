/-
  TreeShape: the law's walk.
-/
import Derived.Test.YtpophalhmjchkaaShape
import Derived.Test.YtpophalhmjchkaaPlays
import Derived.Deep.CutRange
import Derived.Deep.DeepCutAuto
namespace Go.Proofs.Ytpophalhmjchkaa
open Go.RowKit

/-- A tree that tells this list. -/
def TI (w : World) (L : List KV) (b : Nat) (W : World) : Prop := ∃ h t, Tr W b h t ∧ toL h t = L ∧ Below w.heap.size w W
theorem TI.below {w W W2 : World} {L : List KV} {b : Nat} (h : TI w L b W) (hb : Below W.heap.size W W2) : TI w L b W2 := by
  obtain ⟨x, t, q1, q2, q3⟩ := h
  exact ⟨x, t, q1.below hb, q2, q3.trans (hb.mono q3.size)⟩
theorem TI.old {w W : World} {L : List KV} {b : Nat} (h : TI w L b W) : Below w.heap.size w W := by
  obtain ⟨x, t, q1, q2, q3⟩ := h
  exact q3
theorem TI.del {w W : World} {L : List KV} {b : Nat} (h : TI w L b W) (k : ByteArray) (hl : L.length < 1000000000) :
    Calls Try.prog 12 #[.pointer (some ⟨b, 0, none⟩), .string k] W fun e w5 => ∃ b2, e = .returned (.tuple #[.pointer (some ⟨b2, 0, none⟩), .bool (getL k L).isSome]) ∧ TI w (delL k L) b2 w5 ∧ TI w L b w5 := by
  obtain ⟨x, t, q1, q2, q3⟩ := id h
  cases hg : getL k L with
  | none =>
    refine Calls.mono (del_none b x t k W q1 (by rw [q2, hg]; rfl)) ?_
    rintro e w5 ⟨rfl, hb⟩
    have e1 : delL k L = L := del_no hg
    exact ⟨b, rfl, by rw [e1]; exact h.below hb, h.below hb⟩
  | some v =>
    refine Calls.mono (del_some b x t k W q1 (by rw [q2, hg]; rfl) (by rw [q2]; exact hl)) ?_
    rintro e w5 ⟨b2, rfl, h2, t2, g1, g2, g3⟩
    exact ⟨b2, rfl, ⟨h2, t2, g1, by rw [g2, q2], q3.trans (g3.mono q3.size)⟩, h.below g3⟩
theorem TI.put {w W : World} {L : List KV} {b : Nat} (h : TI w L b W) (k v : ByteArray) (hl : L.length < 1000000000) :
    Calls Try.prog 13 #[.pointer (some ⟨b, 0, none⟩), .string k, .string v] W fun e w5 => ∃ b2, e = .returned (.pointer (some ⟨b2, 0, none⟩)) ∧ TI w (putL k v L) b2 w5 ∧ TI w L b w5 := by
  obtain ⟨x, t, q1, q2, q3⟩ := id h
  refine Calls.mono (put_any b x t k v W q1 (by rw [q2]; exact hl)) ?_
  rintro e w5 ⟨b2, rfl, h2, t2, g1, g2, g3⟩
  exact ⟨b2, rfl, ⟨h2, t2, g1, by rw [g2, q2], q3.trans (g3.mono q3.size)⟩, h.below g3⟩
theorem TI.shape {w W : World} {L : List KV} {b : Nat} (h : TI w L b W) (hl : L.length ≤ 2000) :
    Calls Try.prog 17 #[.pointer (some ⟨b, 0, none⟩)] W fun e w5 => e = .returned (.bool true) ∧ TI w L b w5 := by
  obtain ⟨x, t, q1, q2, q3⟩ := id h
  refine Calls.mono (shape_any b x t L W q1 q2 hl) ?_
  rintro e w5 ⟨rfl, hb⟩
  exact ⟨rfl, h.below hb⟩

set_option maxRecDepth 100000 in
set_option maxHeartbeats 16000000 in
theorem shape_walk (a : Option Addr) (c : Nat) (ops : List OpT) (w : World) (ho : Ops w a ops) :
    Calls Try.prog 4 #[.slice a ops.length c] w fun e w' => e = .returned (.bool true) ∧ Below w.heap.size w w' := by
  obtain ⟨n, hn0⟩ : ∃ n, n = ops.length := ⟨_, rfl⟩
  rw [← hn0]
  have HN : Hid (n = ops.length) := hn0
  have HO : Hid (Ops w a ops) := ho
  clear hn0 ho
  go_enter Try.func4, Try.ntmps4
  go_wp2_with (go_at_call 8; refine Calls.mono (new_any _) ?_; rintro e w1 ⟨b0, rfl, ht0, hb0⟩)
  have HT0 : Hid (TI w (WL ops 0) b0 w1) := ⟨_, _, ht0, rfl, hb0⟩
  clear ht0 hb0
  go_loopw [3, 4] (fun tv iv wr => ∃ (j b : Nat), tv = .pointer (some ⟨b, 0, none⟩) ∧ iv = .int .i64 j ∧ j ≤ n ∧ j ≤ 400 ∧ TI w (WL ops j) b wr) (fun _ iv _ => n - (intOf iv).toNat)
  case atStart => exact ⟨0, b0, rfl, rfl, Nat.zero_le _, Nat.zero_le _, HT0.out⟩
  case round =>
    clear HT0
    obtain ⟨j, b, rfl, rfl, hj, hj4, hti⟩ := hrel
    by_cases hlt : j < n ∧ j < 400
    · have hlo : j < ops.length := by have := HN.out; omega
      obtain ⟨bb, off, rfl, hcc⟩ := HO.out.at hlo
      obtain ⟨c0, c1, c2⟩ := hcc wr hti.old
      have HWS : Hid (WL ops (j + 1) = withL ops[j].1 ops[j].2.1 ops[j].2.2 (WL ops j) ∧ (WL ops j).length ≤ j ∧ (WL ops (j + 1)).length ≤ j + 1) := ⟨WL_succ hlo, WL_len ops j (by omega), WL_len ops (j + 1) (by omega)⟩
      have HCC : Hid (∀ w', Below w.heap.size w w' → w'.cell? ⟨bb, off + j * 3, none⟩ = some (.string ops[j].1) ∧ w'.cell? ⟨bb, off + j * 3 + 1, none⟩ = some (.string ops[j].2.1)) := fun w' h => ⟨(hcc w' h).1, (hcc w' h).2.1⟩
      obtain ⟨x, hx⟩ : ∃ x, x = ops[j].1 := ⟨_, rfl⟩
      obtain ⟨y, hy⟩ : ∃ y, y = ops[j].2.1 := ⟨_, rfl⟩
      obtain ⟨d, hd⟩ : ∃ d, d = ops[j].2.2 := ⟨_, rfl⟩
      rw [← hx] at c0 HWS HCC
      rw [← hy] at c1 HWS HCC
      rw [← hd] at c2 HWS
      have hji : (j : Int) < (n : Int) := by omega
      have hji2 : (j : Int) < 400 := by omega
      have HTI : Hid (TI w (WL ops j) b wr) := hti
      clear hcc hx hy hd hlo hlt hti
      go_upto_if 22 with fail
      go_cut [3] from 18 to 44 (fun tv wd => ∃ b2, tv = .pointer (some ⟨b2, 0, none⟩) ∧ TI w (WL ops (j + 1)) b2 wd)
      case first =>
        cases d with
        | true =>
          have hdel := HTI.out.del x (by have := HWS.out.2.1; omega)
          obtain ⟨gb, hgb⟩ : ∃ gb, gb = (getL x (WL ops j)).isSome := ⟨_, rfl⟩
          rw [← hgb] at hdel
          clear hgb
          go_wp2_with (go_at_call 12; refine Calls.mono hdel ?_; rintro e w5 ⟨b2, rfl, ht5, _⟩)
          go_meet
          case rel => exact ⟨b2, rfl, by rw [HWS.out.1]; exact ht5⟩
        | false =>
          have HP : Hid (Calls Try.prog 13 #[.pointer (some ⟨b, 0, none⟩), .string x, .string y] wr.drew fun e w5 => ∃ b2, e = .returned (.pointer (some ⟨b2, 0, none⟩)) ∧ w5.cell? ⟨bb, off + j * 3, none⟩ = some (.string x) ∧ w5.cell? ⟨bb, off + j * 3 + 1, none⟩ = some (.string y) ∧ TI w (WL ops (j + 1)) b2 w5) := (by
            show Calls _ _ _ _ _
            refine Calls.mono ((HTI.out.below (Below.refl _ _).drew).put x y (by have := HWS.out.2.1; omega)) ?_
            rintro e w5 ⟨b2, rfl, ht5, _⟩
            have := HCC.out w5 ht5.old
            exact ⟨b2, rfl, this.1, this.2, by rw [HWS.out.1]; exact ht5⟩)
          have d0 : wr.drew.cell? ⟨bb, off + j * 3, none⟩ = some (.string x) := c0
          have d1 : wr.drew.cell? ⟨bb, off + j * 3 + 1, none⟩ = some (.string y) := c1
          go_wp2
          go_region_held3 (fun w' => w'.cell? ⟨bb, off + j * 3, none⟩ = some (.string x) ∧ w'.cell? ⟨bb, off + j * 3 + 1, none⟩ = some (.string y)) (go_keep)
            (first
              | (go_at_call 13; refine Calls.mono HP.out ?_; rintro e w5 ⟨b2, rfl, s0, s1, ht5⟩))
          go_wp2
          go_meet
          case rel => exact ⟨b2, rfl, ht5⟩
      case rest =>
        obtain ⟨b2, rfl, ht2⟩ := hcut
        have hsh := ht2.shape (by have := HWS.out.2.2; omega)
        have HT2 : Hid _ := ht2
        clear c0 c1 c2 HTI ht2 HCC
        rcases Bool.eq_false_or_eq_true ((j : Int) % 9 == 0) with h9 | h9
        · go_wp2_with (go_at_call 17; refine Calls.mono hsh ?_; rintro e w5 ⟨rfl, ht5⟩)
          go_roundw
          case rel => exact ⟨j + 1, b2, rfl, by go_num, by omega, by omega, ht5⟩
          case measure => simp [intOf]; omega
        · clear hsh
          go_wp2
          go_roundw
          case rel => exact ⟨j + 1, b2, rfl, by go_num, by omega, by omega, HT2.out⟩
          case measure => simp [intOf]; omega
    · have HLT : Hid (¬ (j < n ∧ j < 400)) := hlt
      have hsh := hti.shape (by have := WL_len ops j (by have := HN.out; omega); omega)
      clear hti hlt
      by_cases hc : j < n
      · have hc1 : (j : Int) < (n : Int) := by omega
        have hc2 : ¬ (j : Int) < 400 := by have := HLT.out; omega
        go_wp2_with (first
          | (go_at_call 17; refine Calls.mono hsh ?_; rintro e w5 ⟨rfl, ht5⟩)
          | (go_at_call 9; refine Calls.mono (awake_any _) ?_; rintro e w6 ⟨rfl, hb6⟩))
        go_ret
        exact ⟨rfl, (ht5.below hb6).old⟩
      · have hc1 : ¬ (j : Int) < (n : Int) := by omega
        go_wp2_with (first
          | (go_at_call 17; refine Calls.mono hsh ?_; rintro e w5 ⟨rfl, ht5⟩)
          | (go_at_call 9; refine Calls.mono (awake_any _) ?_; rintro e w6 ⟨rfl, hb6⟩))
        go_ret
        exact ⟨rfl, (ht5.below hb6).old⟩
end Go.Proofs.Ytpophalhmjchkaa
