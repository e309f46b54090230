/-
  Streams: New, Size and the first Write by their contracts.
-/
import Derived.Test.YtdgoepnopenpkaaHash
namespace Go.Proofs.Ytdgoepnopenpkaa
open Go.RowKit

theorem ta48 (v : Value) (w : World) : (Instr.typeAssert (.iface 48 v) 20 48 true).run Try.prog w = .ok (.tuple #[v, .bool true]) w := by
  simp [Instr.typeAssert, run_underlying Try.underlying48]
theorem ta45 (v : Value) (w : World) : (Instr.typeAssert (.iface 45 v) 20 45 true).run Try.prog w = .ok (.tuple #[v, .bool true]) w := by
  simp [Instr.typeAssert, run_underlying Try.underlying45]
theorem ta_no (v : Value) (w : World) : (Instr.typeAssert (.iface 45 v) 20 48 true).run Try.prog w = .ok (.tuple #[.pointer none, .bool false]) w := by
  have hz := (zero_of_info (P := Try.prog) (t := 48) (v := .pointer none) (n := 1) (by kernel_rfl)).1
  simp [Instr.typeAssert, run_underlying Try.underlying48, hz]

theorem takeBlocks_md5 (g : Nat) (s : S4) (a : Option Addr) (l : List UInt8) (cap : Nat) (w : World) (hcap : l.length ≤ cap) (hl : l.length ≤ 281474976710656) (hst : Wds w g 72 s.toL) (hb : Bytes w a l) (hne : 64 ≤ l.length → ∀ ad, a = some ad → ad.block ≠ g) :
    Calls Try.prog 37 #[.iface 48 (.pointer (some ⟨g, 0, none⟩)), .slice a l.length cap] w fun e w' => ∃ ra rc, e = .returned (.slice ra (l.length % 64) rc) ∧ Bytes w ra (rest l) ∧ (∀ ad, ra = some ad → ∃ ad0, a = some ad0 ∧ ad.block = ad0.block) ∧ l.length % 64 ≤ rc ∧ w.grownBy w' (some g) ∧ Wds w' g 72 (eat mMix l s).toL := by
  have HC : Hid _ := md5Take_any g s a l cap w hcap hl hst hb hne
  clear hst hb hne
  have t1 := ta48
  have t2 := ta45
  have t3 := ta_no
  go_enter Try.func37, Try.ntmps37
  go_wp2_with fail
  refine Calls.mono HC.out ?_
  rintro e w' ⟨ra, rc, rfl, r1, r2, r3, r4, r5⟩
  have HR : Hid (Bytes w ra (rest l) ∧ (∀ ad, ra = some ad → ∃ ad0, a = some ad0 ∧ ad.block = ad0.block) ∧ l.length % 64 ≤ rc ∧ w.grownBy w' (some g) ∧ Wds w' g 72 (eat mMix l s).toL) := ⟨r1, r2, r3, r4, r5⟩
  clear r1 r2 r3 r4 r5 HC
  go_wp2
  go_ret
  exact ⟨ra, rc, rfl, HR.out⟩

theorem takeBlocks_sha (g : Nat) (s : S8) (a : Option Addr) (l : List UInt8) (cap : Nat) (w : World) (hcap : l.length ≤ cap) (hl : l.length ≤ 281474976710656) (hst : Wds w g 65 s.toL) (hb : Bytes w a l) (hne : 64 ≤ l.length → ∀ ad, a = some ad → ad.block ≠ g) :
    Calls Try.prog 37 #[.iface 45 (.pointer (some ⟨g, 0, none⟩)), .slice a l.length cap] w fun e w' => ∃ ra rc, e = .returned (.slice ra (l.length % 64) rc) ∧ Bytes w ra (rest l) ∧ (∀ ad, ra = some ad → ∃ ad0, a = some ad0 ∧ ad.block = ad0.block) ∧ l.length % 64 ≤ rc ∧ w.grownBy w' (some g) ∧ Wds w' g 65 (eat sMix l s).toL := by
  have HC : Hid _ := shaTake_any g s a l cap w hcap hl hst hb hne
  clear hst hb hne
  have t1 := ta48
  have t2 := ta45
  have t3 := ta_no
  go_enter Try.func37, Try.ntmps37
  go_wp2_with fail
  refine Calls.mono HC.out ?_
  rintro e w' ⟨ra, rc, rfl, r1, r2, r3, r4, r5⟩
  have HR : Hid (Bytes w ra (rest l) ∧ (∀ ad, ra = some ad → ∃ ad0, a = some ad0 ∧ ad.block = ad0.block) ∧ l.length % 64 ≤ rc ∧ w.grownBy w' (some g) ∧ Wds w' g 65 (eat sMix l s).toL) := ⟨r1, r2, r3, r4, r5⟩
  clear r1 r2 r3 r4 r5 HC
  go_wp2
  go_ret
  exact ⟨ra, rc, rfl, HR.out⟩

theorem sumOf_md5 (g : Nat) (s : S4) (a : Option Addr) (r : List UInt8) (cap size : Nat) (w : World) (hr : r.length ≤ 70368744177664) (hsz : size ≤ 562949953421312) (hst : Wds w g 72 s.toL) (hb : Bytes w a r) :
    Calls Try.prog 38 #[.iface 48 (.pointer (some ⟨g, 0, none⟩)), .slice a r.length cap, .int .i64 (size : Int)] w fun e w' => ∃ v, e = .returned v ∧ Own w' w.heap.size v (md5Out (eat mMix (mfin r size) s)) ∧ Below w.heap.size w w' := by
  have HC : Hid _ := md5Sum_any g s a r cap size w hr hsz hst hb
  clear hst hb
  have t1 := ta48
  have t2 := ta45
  have t3 := ta_no
  go_enter Try.func38, Try.ntmps38
  go_wp2_with fail
  refine Calls.mono HC.out ?_
  rintro e w' ⟨v, rfl, r1, r2⟩
  have HR : Hid (Own w' w.heap.size v (md5Out (eat mMix (mfin r size) s)) ∧ Below w.heap.size w w') := ⟨r1, r2⟩
  clear r1 r2 HC
  go_wp2
  go_ret
  exact ⟨v, rfl, HR.out⟩

theorem sumOf_sha (g : Nat) (s : S8) (a : Option Addr) (r : List UInt8) (cap size : Nat) (w : World) (hr : r.length ≤ 70368744177664) (hsz : size ≤ 562949953421312) (hst : Wds w g 65 s.toL) (hb : Bytes w a r) :
    Calls Try.prog 38 #[.iface 45 (.pointer (some ⟨g, 0, none⟩)), .slice a r.length cap, .int .i64 (size : Int)] w fun e w' => ∃ v, e = .returned v ∧ Own w' w.heap.size v (shaOut (eat sMix (sfin r size) s)) ∧ Below w.heap.size w w' := by
  have HC : Hid _ := shaSum_any g s a r cap size w hr hsz hst hb
  clear hst hb
  have t1 := ta48
  have t2 := ta45
  have t3 := ta_no
  go_enter Try.func38, Try.ntmps38
  go_wp2_with fail
  refine Calls.mono HC.out ?_
  rintro e w' ⟨v, rfl, r1, r2⟩
  have HR : Hid (Own w' w.heap.size v (shaOut (eat sMix (sfin r size) s)) ∧ Below w.heap.size w w') := ⟨r1, r2⟩
  clear r1 r2 HC
  go_wp2
  go_ret
  exact ⟨v, rfl, HR.out⟩

/-- The cells of a stream: its kind, the bytes that are no block yet, the size. -/
def strCells (kv : Value) (R : List UInt8) (n : Nat) : Array Value := (kv :: (bcs R ++ [.int .i64 (n : Int)])).toArray
def Strm (w : World) (g : Nat) (kv : Value) (R : List UInt8) (n : Nat) : Prop := w.heap[g]? = some (.cells (strCells kv R n) 60 (0, 0))
def noughts (n : Nat) : List UInt8 := List.replicate n 0

theorem new_md5 (w : World) : Calls Try.prog 18 #[.int .i64 1] w fun e w' => e = .returned (.tuple #[.pointer (some ⟨w.heap.size + 1, 0, none⟩), .int .i64 0]) ∧ w' = (w.alloc (.cells (wcs mInit.toL).toArray 72)).alloc (.cells (strCells (.iface 48 (.pointer (some ⟨w.heap.size, 0, none⟩))) (noughts 64) 0) 60) := by
  go_enter Try.func18, Try.ntmps18
  go_wp2_with fail
  refine (newMD5_any _).mono ?_
  rintro e w1 ⟨rfl, rfl⟩
  go_wp2_with (refine wpList_build_is rfl 60 _ rfl (strCells (.iface 48 (.pointer (some ⟨w.heap.size, 0, none⟩))) (noughts 64) 0) (by kernel_rfl) ?_)
  go_ret2
  exact ⟨rfl, rfl⟩
theorem new_sha (w : World) : Calls Try.prog 18 #[.int .i64 2] w fun e w' => e = .returned (.tuple #[.pointer (some ⟨w.heap.size + 1, 0, none⟩), .int .i64 0]) ∧ w' = (w.alloc (.cells (wcs sInit.toL).toArray 65)).alloc (.cells (strCells (.iface 45 (.pointer (some ⟨w.heap.size, 0, none⟩))) (noughts 64) 0) 60) := by
  go_enter Try.func18, Try.ntmps18
  go_wp2_with fail
  refine (newSHA_any _).mono ?_
  rintro e w1 ⟨rfl, rfl⟩
  go_wp2_with (refine wpList_build_is rfl 60 _ rfl (strCells (.iface 45 (.pointer (some ⟨w.heap.size, 0, none⟩))) (noughts 64) 0) (by kernel_rfl) ?_)
  go_ret2
  exact ⟨rfl, rfl⟩
theorem new_else (k : Int) (w : World) (h1 : k ≠ 1) (h2 : k ≠ 2) : Calls Try.prog 18 #[.int .i64 k] w fun e w' => e = .returned (.tuple #[.pointer none, .int .i64 1]) ∧ w = w' := by
  have q1 : (k == 1) = false := by simp [h1]
  have q2 : (k == 2) = false := by simp [h2]
  go_enter Try.func18, Try.ntmps18
  go_wp2
  go_ret2
  exact ⟨rfl, rfl⟩

theorem Strm.size {w : World} {g : Nat} {kv : Value} {R : List UInt8} {n : Nat} (h : Strm w g kv R n) (hR : R.length = 64) : w.cell? ⟨g, 65, none⟩ = some (.int .i64 (n : Int)) := by
  rw [cell_of_row w g 65 _ 60 (0, 0) h]
  unfold strCells
  simp [bcs_length, hR]
theorem Strm.kind {w : World} {g : Nat} {kv : Value} {R : List UInt8} {n : Nat} (h : Strm w g kv R n) : w.cell? ⟨g, 0, none⟩ = some kv := by
  rw [cell_of_row w g 0 _ 60 (0, 0) h]
  rfl
theorem size_any (g : Nat) (kv : Value) (R : List UInt8) (n : Nat) (w : World) (h : Strm w g kv R n) (hR : R.length = 64) : Calls Try.prog 21 #[.pointer (some ⟨g, 0, none⟩)] w fun e w' => e = .returned (.int .i64 (n : Int)) ∧ w = w' := by
  have hc := h.size hR
  clear h
  go_enter Try.func21, Try.ntmps21
  go_wp2
  go_ret
  exact ⟨rfl, rfl⟩
end Go.Proofs.Ytdgoepnopenpkaa
