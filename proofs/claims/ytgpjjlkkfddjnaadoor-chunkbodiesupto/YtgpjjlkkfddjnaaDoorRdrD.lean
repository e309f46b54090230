/-
  The reader's step over a text.
-/
import Derived.Test.YtgpjjlkkfddjnaaDoorRdrC
import Derived.Deep.RegionHeld3
import Derived.Deep.RegionWith
import Derived.Deep.Cut
import Derived.Lib.Strings
namespace Go.Proofs.YtgpjjlkkfddjnaaDoor
open Go.RowKit

theorem txB_eq {t l : List UInt8} {k : Nat} (hk : k = min t.length l.length) : (l.take k == ((⟨t.toArray⟩ : ByteArray).extract 0 k).toList) = txB t l := by
  have e : ((⟨t.toArray⟩ : ByteArray).extract 0 k).toList = t.take k := by
    rw [Lib.toList_data]
    rw [ByteArray.data_extract]
    simp
  rw [e, txB, ← hk, Bool.eq_iff_iff]
  simp
theorem tx_fin {w w2 w3 : World} {p B : Nat} {s : RS} {t : List UInt8} {b : Bool} {e : Ending} (hb : b = txB t s.1) (hm : Md (· = p) w w2) (h : TkR w2 w3 p B (tkS t.length (exS b s)) e) : (∃ a cap, Rx w3 p B a cap (txS t s)) ∧ Md (· = p) w w3 := by
  subst hb
  exact ⟨h.rest, hm.trans h.md⟩
set_option maxRecDepth 20000 in
set_option maxHeartbeats 4000000 in
theorem text_any (p B : Nat) (a : Option Addr) (cap : Nat) (s : RS) (t : List UInt8) (w : World) (h : Rx w p B a cap s) (ht : t.length ≤ 100) (hl : s.1.length ≤ 1000000000) :
    Calls Tryd.prog 39 #[.pointer (some ⟨p, 0, none⟩), .string ⟨t.toArray⟩] w fun e w' => e = .returned (.tuple #[]) ∧ (∃ a cap, Rx w' p B a cap (txS t s)) ∧ Md (· = p) w w' := by
  have H : Hid (Rx w p B a cap s) := h
  have HL : Hid (s.1.length ≤ 1000000000 ∧ t.length ≤ 100) := ⟨hl, ht⟩
  have c0 : w.cell? ⟨p, 0, none⟩ = some (.slice a s.1.length cap) := (cell_blk h.box 0).trans rfl
  have hcap := h.cap_
  have HBy : Hid (Bytes w a s.1) := h.by_
  clear h
  obtain ⟨l, hL⟩ : ∃ l, l = s.1 := ⟨_, rfl⟩
  rw [← hL] at c0 hl hcap HBy
  have HLS : Hid (l = s.1) := hL
  clear hL
  have KE := (show Hid (∀ W b, Below w.heap.size w W → Calls Tryd.prog 41 #[.pointer (some ⟨p, 0, none⟩), .bool b] W fun e w' => e = .returned (.tuple #[]) ∧ Rx w' p B a cap (exS b s) ∧ Md (· = p) w w') from fun W b hb => (expect_any p B a cap s b W (H.out.keep hb)).mono fun e w' ⟨h1, h2, h3⟩ => ⟨h1, h2, (Md.ofBelow hb).trans h3⟩)
  have htl : (⟨t.toArray⟩ : ByteArray).size = t.length := by simp [ByteArray.size]
  go_enter Tryd.func39, Tryd.ntmps39
  by_cases hle : t.length ≤ l.length
  · have hci := convert_bytes w.drew a cap (l.take t.length) (bytes_take _ (HBy.out.below ((Below.refl _ w).drew) (Nat.le_refl _)))
    rw [show (l.take t.length).length = t.length from by rw [List.length_take]; omega] at hci
    have HB := (show Hid _ from txB_eq (t := t) (l := l) (k := t.length) (by omega))
    go_upto_region 1 with fail
    go_region_with (go_at_call 41; (with_reducible refine Calls.mono (KE.out _ _ ((Below.refl _ w).drew)) ?_); rintro e w2 ⟨rfl, hx2, hm2⟩)
    all_goals
      go_wp2_with (go_at_call 40; refine Calls.mono (take_any p B a cap _ t.length w2 hx2 (by omega)) ?_; rintro e w3 ht3; obtain ⟨da, dc, rfl, -⟩ := ht3.told)
      refine bodyPost_end (results_none rfl _ _ _) rfl ?_
      refine ⟨rfl, tx_fin (by rw [← HLS.out]; first | exact HB.out | (have h9 := HB.out; rw [List.take_length] at h9; exact h9)) hm2 ht3⟩
  · have hci := convert_bytes w.drew a cap (l.take l.length) (bytes_take _ (HBy.out.below ((Below.refl _ w).drew) (Nat.le_refl _)))
    rw [show (l.take l.length).length = l.length from by rw [List.length_take]; omega] at hci
    have HB := (show Hid _ from txB_eq (t := t) (l := l) (k := l.length) (by omega))
    have hlt : l.length < t.length := by omega
    go_upto_region 1 with fail
    go_region_with (go_at_call 41; (with_reducible refine Calls.mono (KE.out _ _ ((Below.refl _ w).drew)) ?_); rintro e w2 ⟨rfl, hx2, hm2⟩)
    all_goals
      go_wp2_with (go_at_call 40; refine Calls.mono (take_any p B a cap _ t.length w2 hx2 (by omega)) ?_; rintro e w3 ht3; obtain ⟨da, dc, rfl, -⟩ := ht3.told)
      refine bodyPost_end (results_none rfl _ _ _) rfl ?_
      refine ⟨rfl, tx_fin (by rw [← HLS.out]; first | exact HB.out | (have h9 := HB.out; rw [List.take_length] at h9; exact h9)) hm2 ht3⟩
end Go.Proofs.YtgpjjlkkfddjnaaDoor
