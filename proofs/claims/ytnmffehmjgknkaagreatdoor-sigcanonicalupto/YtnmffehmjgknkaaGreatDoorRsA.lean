/-
  The document's hexadecimal digits, sums and signatures.
-/
import Derived.Test.YtnmffehmjgknkaaGreatDoorRunA
import Derived.Test.YtnmffehmjgknkaaGreatDoorRefHmac
import Derived.Deep.RegionHeld3
import Derived.Deep.Cut
import Derived.Deep.CutRange
import Derived.BigQuiet
namespace Go.Proofs.YtnmffehmjgknkaaGreatDoor
open Go.RowKit

def hxC (n : Nat) : UInt8 := UInt8.ofNat (if n < 10 then 48 + n else 87 + n)
theorem rdig_fin : ∀ d : Fin 16, ((⟨#[48, 49, 50, 51, 52, 53, 54, 55, 56, 57, 97, 98, 99, 100, 101, 102]⟩ : ByteArray).extract d.val (d.val + 1)).data.toList = [hxC d.val] := by decide
theorem rdig_at {n : Nat} (h : n < 16) : (⟨#[48, 49, 50, 51, 52, 53, 54, 55, 56, 57, 97, 98, 99, 100, 101, 102]⟩ : ByteArray).extract n (n + 1) = ⟨#[hxC n]⟩ := by
  have e := rdig_fin ⟨n, h⟩
  simp only at e
  have e2 : ((⟨#[48, 49, 50, 51, 52, 53, 54, 55, 56, 57, 97, 98, 99, 100, 101, 102]⟩ : ByteArray).extract n (n + 1)).data = #[hxC n] := by
    rw [← Array.toArray_toList (xs := ((⟨#[48, 49, 50, 51, 52, 53, 54, 55, 56, 57, 97, 98, 99, 100, 101, 102]⟩ : ByteArray).extract n (n + 1)).data), e]
  generalize (⟨#[48, 49, 50, 51, 52, 53, 54, 55, 56, 57, 97, 98, 99, 100, 101, 102]⟩ : ByteArray).extract n (n + 1) = b at e2
  cases b
  simp only at e2
  rw [e2]
theorem h2_is_fin : ∀ d : Fin 256, h2 (UInt8.ofNat d.val) = [hxC (d.val / 16), hxC (d.val % 16)] := by decide +kernel
theorem h2_is (c : UInt8) : h2 c = [hxC (c.toNat / 16), hxC (c.toNat % 16)] := by
  have := h2_is_fin ⟨c.toNat, c.toNat_lt⟩
  simpa using this
set_option maxHeartbeats 1000000 in
theorem rdig_any (n : Nat) (h : n < 16) (w : World) : Calls Tryz.prog 106 #[.int .i64 (n : Int)] w fun e w' => e = .returned (.string ⟨#[hxC n]⟩) ∧ w' = w := by
  have HE := (show Hid _ from rdig_at h)
  have h1 : (n : Int) < 16 := by omega
  have h0 : (0 : Int) ≤ (n : Int) := by omega
  go_enter Tryz.func106, Tryz.ntmps106
  go_wp2
  go_ret
  refine ⟨?_, rfl⟩
  rw [HE.out]
  rfl
set_option maxRecDepth 20000 in
set_option maxHeartbeats 2000000 in
theorem rhex_any (a : Option Addr) (l : List UInt8) (cap : Nat) (w : World) (hB : Bytes w a l) (hl : l.length ≤ 1000000000) :
    Calls Tryz.prog 46 #[.slice a l.length cap] w fun e w' => e = .returned (.string ⟨(hexL l).toArray⟩) ∧ Below w.heap.size w w' := by
  have HB := (show Hid (Bytes w a l) from hB)
  have HL := (show Hid (l.length ≤ 1000000000) from hl)
  have HD := (show Hid (∀ n : Nat, n < 16 → ∀ W, Calls Tryz.prog 106 #[.int .i64 (n : Int)] W fun e w' => e = .returned (.string ⟨#[hxC n]⟩) ∧ w' = W) from fun n h W => rdig_any n h W)
  clear hB
  go_enter Tryz.func46, Tryz.ntmps46
  go_wp2_with fail
  go_loopw [3, 4] (fun s i wr => ∃ (k : Nat) (S : ByteArray), k ≤ l.length ∧ i = .int .i64 (k : Int) ∧ s = .string S ∧ Hid (S = ⟨(hexL (l.take k)).toArray⟩ ∧ Below w.heap.size w wr)) (fun _ i _ => l.length - (intOf i).toNat)
  case atStart => exact ⟨0, _, Nat.zero_le _, rfl, rfl, ⟨rfl, Below.refl _ _⟩⟩
  case round =>
    obtain ⟨k, S, hk, rfl, rfl, hi⟩ := hrel
    by_cases hlt : k < l.length
    · have hki : (k : Int) < (l.length : Int) := by omega
      have hk0 : (0 : Int) ≤ (k : Int) := by omega
      have hk9 : (k : Int) < 10000000000 := by omega
      obtain ⟨b, off, rfl, hbs, hcs⟩ := (HB.out.below hi.out.2 (Nat.le_refl _)).at hlt
      have hcell := hcs k hlt
      have hsnoc := hexL_snoc l k hlt
      obtain ⟨c, hc⟩ : ∃ c, c = l[k] := ⟨_, rfl⟩
      rw [← hc] at hcell hsnoc
      rw [h2_is] at hsnoc
      have hc256 := c.toNat_lt
      obtain ⟨m, hm⟩ : ∃ m, m = c.toNat := ⟨_, rfl⟩
      rw [← hm] at hcell hsnoc hc256
      have HSN := (show Hid _ from hsnoc)
      have hSz : S.size ≤ 2000000000 := by
        rw [hi.out.1]
        have e : (⟨(hexL (l.take k)).toArray⟩ : ByteArray).size = (hexL (l.take k)).length := by simp [ByteArray.size]
        rw [e, hexL_length, List.length_take]
        omega
      have D1 := (show Hid (∀ W (z : Int), z = (m : Int) / 16 → Calls Tryz.prog 106 #[.int .i64 z] W fun e w' => e = .returned (.string ⟨#[hxC (m / 16)]⟩) ∧ w' = W) from fun W z hz => by
        have := HD.out (m / 16) (by omega) W
        rw [show ((m / 16 : Nat) : Int) = z from by omega] at this
        exact this)
      have D2 := (show Hid (∀ W (z : Int), z = (m : Int) % 16 → Calls Tryz.prog 106 #[.int .i64 z] W fun e w' => e = .returned (.string ⟨#[hxC (m % 16)]⟩) ∧ w' = W) from fun W z hz => by
        have := HD.out (m % 16) (Nat.mod_lt _ (by omega)) W
        rw [show ((m % 16 : Nat) : Int) = z from by omega] at this
        exact this)
      have hq1 : ¬ (S.size + 1 > 9223372036854775807) := by omega
      have hq2 : ¬ (S.size + 1 + 1 > 9223372036854775807) := by omega
      have hm256 : (m : Int) < 256 := by omega
      have hm0 : (0 : Int) ≤ (m : Int) := by omega
      have hwm : IntKind.i64.wrap (m : Int) = (m : Int) := by rw [IntKind.wrap_i64]; omega
      have hwd : IntKind.i64.wrap ((m : Int).tdiv 16) = (m : Int) / 16 := by rw [Int.tdiv_eq_ediv_of_nonneg hm0, IntKind.wrap_i64]; omega
      have hwd2 : IntKind.i64.wrap ((m : Int) / 16) = (m : Int) / 16 := by rw [IntKind.wrap_i64]; omega
      have hwt : (m : Int).tmod 16 = (m : Int) % 16 := Int.tmod_eq_emod_of_nonneg hm0
      clear hcs hc hm hsnoc hSz hc256
      go_upto_region 5 with fail
      go_region_held3 (fun w' => w'.cell? ⟨b, off + k, none⟩ = some (.int .u8 (m : Int))) (go_keep) (first
        | (go_at_call 106; (with_reducible refine Calls.mono (D1.out _ _ rfl) ?_); rintro e w2 ⟨rfl, rfl⟩)
        | (go_at_call 106; (with_reducible refine Calls.mono (D2.out _ _ rfl) ?_); rintro e w2 ⟨rfl, rfl⟩))
      go_wp2_with fail
      go_roundw
      case rel => exact ⟨k + 1, _, by omega, by go_num, rfl, ⟨by rw [hi.out.1, HSN.out]; apply ByteArray.ext; simp, hi.out.2.drew⟩⟩
      case measure => simp [intOf]; omega
    · obtain rfl : k = l.length := by omega
      have HR := (show Hid (S = ⟨(hexL l).toArray⟩) from by have := hi.out.1; rw [List.take_length] at this; exact this)
      go_wp2_with fail
      go_ret
      exact ⟨by rw [HR.out]; rfl, hi.out.2⟩
end Go.Proofs.YtnmffehmjgknkaaGreatDoor
