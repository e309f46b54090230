/-
  Sectors of a device read and counted: package sectors by its contracts (Count, Within, Read).
-/
import Derived.Test.YtecljiefljgfmaaConcat
import Derived.Test.YtecljiefljgfmaaCrc
import Derived.Test.YtecljiefljgfmaaWrite
import Derived.Test.YtecljiefljgfmaaFlush
import Derived.Test.YtecljiefljgfmaaRead
import Derived.BigRegion
import Derived.WalkMore
import Derived.ScopeJumps
import Derived.Deep.CutRange
import Derived.Deep.DeepCutAuto
import Derived.Deep.RegionWith
namespace Go.Proofs.Ytecljiefljgfmaa
open Go.RowKit

def sect (n : Nat) : Nat := (n + 255) / 256

theorem count_any (n : Nat) (w : World) (h : n ≤ 9223372036854775807) : Calls Try.prog 53 #[.int .i64 (n : Int)] w fun e w' => e = .returned (.int .i64 (sect n : Int)) ∧ w = w' := by
  rcases Nat.eq_zero_or_pos (n % 256) with h0 | h0
  · go_enter Try.func53, Try.ntmps53
    go_wp2
    go_ret
    exact ⟨ret_int (by unfold sect; omega), rfl⟩
  · go_enter Try.func53, Try.ntmps53
    go_wp2
    go_ret
    exact ⟨ret_int (by unfold sect; omega), rfl⟩

theorem within_yes (d : Nat) (p n : Nat) (w : World) (F : Nat → Prop) (M : D) (h : Dev w F d M) (hn : p + n ≤ M.L.length) :
    Calls Try.prog 41 #[.pointer (some ⟨d, 0, none⟩), .int .i64 (p : Int), .int .i64 (n : Int)] w fun e w' => e = .returned (.bool true) ∧ w = w' := by
  have hsz := size_any d w F M h
  have htop := h.1.top
  have h1 : (p : Int) ≤ (M.L.length : Int) - (n : Int) := by omega
  have h2 : (0 : Int) ≤ (n : Int) := by omega
  have h3 : (0 : Int) ≤ (p : Int) := by omega
  obtain ⟨k, hk⟩ : ∃ k, k = M.L.length := ⟨_, rfl⟩
  rw [← hk] at hsz htop h1 hn
  clear h hk
  go_enter Try.func41, Try.ntmps41
  go_wp2_with (go_at_call 73; refine Calls.mono hsz ?_; rintro e w1 ⟨rfl, rfl⟩)
  go_ret
  exact ⟨rfl, rfl⟩
/-- The bytes of k sectors from one on. -/
def secs (S : List ByteArray) (p k : Nat) : List UInt8 := ((S.drop p).take k).flatMap fun x => x.data.toList
theorem secs_succ {S : List ByteArray} {p k : Nat} (h : p + k < S.length) : secs S p (k + 1) = secs S p k ++ S[p + k].data.toList := by
  unfold secs
  have hk : k < (S.drop p).length := by simp; omega
  rw [List.take_succ_eq_append_getElem hk, List.flatMap_append]
  simp
theorem secs_length {S : List ByteArray} (hS : ∀ x ∈ S, x.size = 256) {p : Nat} : ∀ {k : Nat}, p + k ≤ S.length → (secs S p k).length = 256 * k
  | 0, _ => by simp [secs]
  | k + 1, h => by
    rw [secs_succ (by omega), List.length_append, secs_length hS (k := k) (by omega)]
    have : (S[p + k]'(by omega)).size = 256 := hS _ (List.getElem_mem _)
    have e : (S[p + k]'(by omega)).data.toList.length = (S[p + k]'(by omega)).size := by simp
    omega
theorem sect_le (n : Nat) : n ≤ 256 * sect n := by unfold sect; omega


set_option maxHeartbeats 200000 in
set_option maxRecDepth 20000 in
theorem sread_ok (d p : Nat) (size : Nat) (w : World) (F : Nat → Prop) (M : D) (h : Dev w F d M) (hs : M.st ≠ 2) (hS : ∀ x ∈ M.S, x.size = 256) (h1 : 1 ≤ size) (hsz : p + sect size ≤ M.S.length) :
    Calls Try.prog 74 #[.pointer (some ⟨d, 0, none⟩), .int .i64 (p : Int), .int .i64 (size : Int)] w fun e w' => ∃ a c, e = .returned (.tuple #[.slice a size c, .int .i64 0]) ∧ Bytes w' a ((secs M.S p (sect size)).take size) ∧ (∃ b off, a = some ⟨b, off, none⟩ ∧ w.heap.size ≤ b) ∧ size ≤ c ∧ 256 ≤ c ∧ Below w.heap.size w w' := by
  have htop : M.S.length ≤ 4096 := by rw [h.1.len]; exact h.1.top
  have hse := count_any size w (by unfold sect at hsz; omega)
  have hle := sect_le size
  have hlen : (secs M.S p (sect size)).length = 256 * sect size := secs_length hS hsz
  obtain ⟨n, hn⟩ : ∃ n, n = sect size := ⟨_, rfl⟩
  rw [← hn] at hse hle hsz hlen ⊢
  have hn1 : 1 ≤ n := by omega
  have HD : Hid (Dev w F d M) := h
  have HLN : Hid ((secs M.S p n).length = 256 * n) := hlen
  have HSS : Hid (∀ x ∈ M.S, x.size = 256) := hS
  clear h hn hlen hS
  go_enter Try.func74, Try.ntmps74
  go_wp2_with fail
  refine Calls.mono hse ?_
  rintro e w1 ⟨rfl, rfl⟩
  clear hse
  go_wp2
  go_loopw [8, 14] (fun v i wr => ∃ k : Nat, k ≤ n ∧ i = .int .i64 k ∧ Own wr w.heap.size v (secs M.S p k) ∧ Below w.heap.size w wr) (fun _ i _ => n - (intOf i).toNat)
  case atStart => exact ⟨0, Nat.zero_le _, rfl, by rw [secs]; exact World.ownsRow_nil _ _ _ _, Below.refl _ _⟩
  case round =>
    obtain ⟨k, hk, rfl, hown, hnx⟩ := hrel
    by_cases hlt2 : k < n
    · have hik : p + k < M.S.length := by omega
      have hrd := read_ok d (p + k) wr F M (HD.out.below hnx) hs hik
      have hssz : (M.S[p + k]).size = 256 := HSS.out _ (List.getElem_mem _)
      have hss := secs_succ (p := p) (k := k) hik
      have hsl := secs_length HSS.out (p := p) (k := k) (by omega)
      obtain ⟨x, hx⟩ : ∃ x, x = M.S[p + k] := ⟨_, rfl⟩
      rw [← hx] at hrd hssz hss
      rw [hssz] at hrd
      have hadd : (p : Int) + (k : Int) = ((p + k : Nat) : Int) := by omega
      have hki : (k : Int) < (n : Int) := by omega
      rw [← hadd] at hrd
      have HRD : Hid (Calls Try.prog 58 #[.pointer (some ⟨d, 0, none⟩), .int .i64 ((p : Int) + (k : Int))] wr fun e w' => ∃ gq cap, e = .returned (.tuple #[.slice (some ⟨gq, 0, none⟩) 256 cap, .int .i64 0]) ∧ Fresh w' gq x ∧ wr.heap.size ≤ gq ∧ Below wr.heap.size wr w') := hrd
      have HO : Hid (Own wr w.heap.size u8 (secs M.S p k)) := hown
      have HB : Hid (Below w.heap.size w wr) := hnx
      have HSS2 : Hid (secs M.S p (k + 1) = secs M.S p k ++ x.data.toList) := hss
      have HSL : Hid ((secs M.S p k).length = 256 * k ∧ x.size = 256) := ⟨hsl, hssz⟩
      clear hrd hx hown hnx hss hsl hssz hik hadd
      go_wp2_with fail
      (with_reducible refine Calls.mono HRD.out ?_)
      rintro e w2 ⟨gx, cx, rfl, hf2, hg2, hb2⟩
      have hbb : Below w.heap.size w w2 := HB.out.trans (hb2.mono HB.out.size)
      have hO2 : Own w2 w.heap.size u8 (secs M.S p k) := keeps_below (w := wr) hb2 _ _ _ _ _ _ HO.out
      have hby : Bytes w2 (some ⟨gx, 0, none⟩) x.data.toList := hf2.bytes
      have hl256 : x.data.toList.length = 256 := by simp; exact HSL.out.2
      have hsz2 := hbb.size
      have HOB : Hid (∀ j, u8.ownBlock = some j → w.heap.size ≤ j) := fun j hj => (owns_lt HO.out j hj).1
      have HBB : Hid (Below w.heap.size w w2) := hbb
      clear hf2 hg2 hb2 hbb HRD HO HB
      go_wp2_with (at_builtin; refine wpList_append_bytes rfl (.tmp 28) (.tmp 29) rfl w.heap.size _ (secs M.S p k) rfl hO2 (some ⟨gx, 0, none⟩) x.data.toList cx (by rw [hl256]; rfl) hby (fun h => by cases h) (by rw [HSL.out.1, hl256]; omega) hsz2 ?_; intro v3 w3 ho3 hg3)
      go_roundw
      case rel => exact ⟨k + 1, by omega, by go_num, by rw [HSS2.out]; exact ho3, HBB.out.grown hg3 hsz2 HOB.out⟩
      case measure => simp [intOf]; omega
    · obtain rfl : k = n := by omega
      have hown2 := hown
      obtain ⟨a, c, rfl, hby, hno, hlc, hob⟩ := hown.open
      rw [HLN.out] at hlc ⊢
      rcases hby with h0 | ⟨b, off, rfl, hbl, hcs⟩
      · have := HLN.out
        rw [h0] at this
        simp at this
        omega
      · have hcs' : Bytes wr (some ⟨b, off, none⟩) (secs M.S p k) := .inr ⟨b, off, rfl, hbl, hcs⟩
        have HBY : Hid (Bytes wr (some ⟨b, off, none⟩) (secs M.S p k)) := hcs'
        have HBG : Hid (w.heap.size ≤ b) := (show _ ≤ _ from (owns_lt hown2 b (by simp [Value.ownBlock])).1)
        have hsc : (size : Int) ≤ (c : Int) := by omega
        have hsc0 : (0 : Int) ≤ (size : Int) := by omega
        clear hcs hcs' hob hno hown2
        go_wp2
        go_ret2
        exact ⟨some ⟨b, off, none⟩, c, rfl, HBY.out.take size, ⟨b, off, rfl, HBG.out⟩, by omega, by omega, hnx⟩

set_option maxHeartbeats 2000000 in
set_option maxRecDepth 20000 in
theorem sread_none (d p : Nat) (w : World) :
    Calls Try.prog 74 #[.pointer (some ⟨d, 0, none⟩), .int .i64 (p : Int), .int .i64 0] w fun e w' => e = .returned (.tuple #[.slice none 0 0, .int .i64 0]) ∧ w = w' := by
  have hse := count_any 0 w (by omega)
  rw [show sect 0 = 0 from rfl] at hse
  go_enter Try.func74, Try.ntmps74
  go_wp2_with fail
  refine Calls.mono hse ?_
  rintro e w1 ⟨rfl, rfl⟩
  clear hse
  go_wp2
  go_loopw [8, 14] (fun v i wr => v = .slice none 0 0 ∧ i = .int .i64 0 ∧ wr = w) (fun _ _ _ => 0)
  case atStart => exact ⟨rfl, rfl, rfl⟩
  case round =>
    obtain ⟨rfl, rfl, rfl⟩ := hrel
    go_wp2
    go_ret2
    exact ⟨rfl, rfl⟩

set_option maxHeartbeats 2000000 in
set_option maxRecDepth 20000 in
theorem sread_dead (d p : Nat) (size : Nat) (w : World) (F : Nat → Prop) (M : D) (h : Dev w F d M) (hs : M.st = 2) (h1 : 1 ≤ size) (hsz : size ≤ 9223372036854775807) (hp : p ≤ 4096) :
    Calls Try.prog 74 #[.pointer (some ⟨d, 0, none⟩), .int .i64 (p : Int), .int .i64 (size : Int)] w fun e w' => e = .returned (.tuple #[.slice none 0 0, .int .i64 50]) ∧ w = w' := by
  have hse := count_any size w hsz
  have hn1 : 1 ≤ sect size := by unfold sect; omega
  obtain ⟨n, hn⟩ : ∃ n, n = sect size := ⟨_, rfl⟩
  rw [← hn] at hse hn1
  have hrd := read_dead d (p : Int) w F M h hs
  have hni : (0 : Int) < (n : Int) := by omega
  clear h hn hs
  go_enter Try.func74, Try.ntmps74
  go_wp2_with fail
  refine Calls.mono hse ?_
  rintro e w1 ⟨rfl, rfl⟩
  clear hse
  go_wp2
  go_loopw [8, 14] (fun v i wr => v = .slice none 0 0 ∧ i = .int .i64 0 ∧ wr = w) (fun _ _ _ => 0)
  case atStart => exact ⟨rfl, rfl, rfl⟩
  case round =>
    obtain ⟨rfl, rfl, rfl⟩ := hrel
    go_wp2_with (go_at_call 58; (with_reducible refine Calls.mono hrd ?_); rintro e w2 ⟨rfl, rfl⟩)
    go_ret2
    exact ⟨rfl, rfl⟩
end Go.Proofs.Ytecljiefljgfmaa
