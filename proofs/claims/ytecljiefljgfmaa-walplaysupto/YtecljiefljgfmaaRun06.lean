/-
  Sectors of a device read and counted: package sectors by its contracts (Count, Within, Read).
-/
import Derived.Test.YtecljiefljgfmaaRun04
import Derived.Test.YtecljiefljgfmaaRun05
import Derived.Test.YtecljiefljgfmaaRun01
import Derived.Test.YtecljiefljgfmaaRun02
import Derived.BigRegion
import Derived.WalkMore
import Derived.ScopeJumps
import Derived.Deep.CutRange
import Derived.Deep.DeepCutAuto
import Derived.Deep.RegionWith
import Derived.Shelf.Bits.Mul64
import Derived.Shelf.Strings.Repeat
import Derived.Test.YtecljiefljgfmaaProg
import Derived.Laws.CopyOwn
namespace Go.Proofs.Ytecljiefljgfmaa
open Go.RowKit

def sect (n : Nat) : Nat := (n + 255) / 256

theorem count_any (n : Nat) (w : World) (h : n ≤ 9223372036854775807) : Calls Try.prog 53 #[.int .i64 (n : Int)] w fun e w' => e = .returned (.int .i64 (sect n : Int)) ∧ w = w' := by
  rcases Nat.eq_zero_or_pos (n % 256) with h0 | h0
  · go_enter Try.func53, Try.ntmps53
    go_wp2
    go_ret
    exact ⟨ret_int (by unfold sect; omega), rfl⟩
  · go_enter Try.func53, Try.ntmps53
    go_wp2
    go_ret
    exact ⟨ret_int (by unfold sect; omega), rfl⟩

theorem within_yes (d : Nat) (p n : Nat) (w : World) (F : Nat → Prop) (M : D) (h : Dev w F d M) (hn : p + n ≤ M.L.length) :
    Calls Try.prog 41 #[.pointer (some ⟨d, 0, none⟩), .int .i64 (p : Int), .int .i64 (n : Int)] w fun e w' => e = .returned (.bool true) ∧ w = w' := by
  have hsz := size_any d w F M h
  have htop := h.1.top
  have h1 : (p : Int) ≤ (M.L.length : Int) - (n : Int) := by omega
  have h2 : (0 : Int) ≤ (n : Int) := by omega
  have h3 : (0 : Int) ≤ (p : Int) := by omega
  obtain ⟨k, hk⟩ : ∃ k, k = M.L.length := ⟨_, rfl⟩
  rw [← hk] at hsz htop h1 hn
  clear h hk
  go_enter Try.func41, Try.ntmps41
  go_wp2_with (go_at_call 73; refine Calls.mono hsz ?_; rintro e w1 ⟨rfl, rfl⟩)
  go_ret
  exact ⟨rfl, rfl⟩
/-- The bytes of k sectors from one on. -/
def secs (S : List ByteArray) (p k : Nat) : List UInt8 := ((S.drop p).take k).flatMap fun x => x.data.toList
theorem secs_succ {S : List ByteArray} {p k : Nat} (h : p + k < S.length) : secs S p (k + 1) = secs S p k ++ S[p + k].data.toList := by
  unfold secs
  have hk : k < (S.drop p).length := by simp; omega
  rw [List.take_succ_eq_append_getElem hk, List.flatMap_append]
  simp
theorem secs_length {S : List ByteArray} (hS : ∀ x ∈ S, x.size = 256) {p : Nat} : ∀ {k : Nat}, p + k ≤ S.length → (secs S p k).length = 256 * k
  | 0, _ => by simp [secs]
  | k + 1, h => by
    rw [secs_succ (by omega), List.length_append, secs_length hS (k := k) (by omega)]
    have : (S[p + k]'(by omega)).size = 256 := hS _ (List.getElem_mem _)
    have e : (S[p + k]'(by omega)).data.toList.length = (S[p + k]'(by omega)).size := by simp
    omega
theorem sect_le (n : Nat) : n ≤ 256 * sect n := by unfold sect; omega


set_option maxHeartbeats 200000 in
set_option maxRecDepth 20000 in
theorem sread_ok (d p : Nat) (size : Nat) (w : World) (F : Nat → Prop) (M : D) (h : Dev w F d M) (hs : M.st ≠ 2) (hS : ∀ x ∈ M.S, x.size = 256) (h1 : 1 ≤ size) (hsz : p + sect size ≤ M.S.length) :
    Calls Try.prog 74 #[.pointer (some ⟨d, 0, none⟩), .int .i64 (p : Int), .int .i64 (size : Int)] w fun e w' => ∃ a c, e = .returned (.tuple #[.slice a size c, .int .i64 0]) ∧ Bytes w' a ((secs M.S p (sect size)).take size) ∧ (∃ b off, a = some ⟨b, off, none⟩ ∧ w.heap.size ≤ b) ∧ size ≤ c ∧ 256 ≤ c ∧ Below w.heap.size w w' := by
  have htop : M.S.length ≤ 4096 := by rw [h.1.len]; exact h.1.top
  have hse := count_any size w (by unfold sect at hsz; omega)
  have hle := sect_le size
  have hlen : (secs M.S p (sect size)).length = 256 * sect size := secs_length hS hsz
  obtain ⟨n, hn⟩ : ∃ n, n = sect size := ⟨_, rfl⟩
  rw [← hn] at hse hle hsz hlen ⊢
  have hn1 : 1 ≤ n := by omega
  have HD : Hid (Dev w F d M) := h
  have HLN : Hid ((secs M.S p n).length = 256 * n) := hlen
  have HSS : Hid (∀ x ∈ M.S, x.size = 256) := hS
  clear h hn hlen hS
  go_enter Try.func74, Try.ntmps74
  go_wp2_with fail
  refine Calls.mono hse ?_
  rintro e w1 ⟨rfl, rfl⟩
  clear hse
  go_wp2
  go_loopw [8, 14] (fun v i wr => ∃ k : Nat, k ≤ n ∧ i = .int .i64 k ∧ Own wr w.heap.size v (secs M.S p k) ∧ Below w.heap.size w wr) (fun _ i _ => n - (intOf i).toNat)
  case atStart => exact ⟨0, Nat.zero_le _, rfl, by rw [secs]; exact World.ownsRow_nil _ _ _ _, Below.refl _ _⟩
  case round =>
    obtain ⟨k, hk, rfl, hown, hnx⟩ := hrel
    by_cases hlt2 : k < n
    · have hik : p + k < M.S.length := by omega
      have hrd := read_ok d (p + k) wr F M (HD.out.below hnx) hs hik
      have hssz : (M.S[p + k]).size = 256 := HSS.out _ (List.getElem_mem _)
      have hss := secs_succ (p := p) (k := k) hik
      have hsl := secs_length HSS.out (p := p) (k := k) (by omega)
      obtain ⟨x, hx⟩ : ∃ x, x = M.S[p + k] := ⟨_, rfl⟩
      rw [← hx] at hrd hssz hss
      rw [hssz] at hrd
      have hadd : (p : Int) + (k : Int) = ((p + k : Nat) : Int) := by omega
      have hki : (k : Int) < (n : Int) := by omega
      rw [← hadd] at hrd
      have HRD : Hid (Calls Try.prog 58 #[.pointer (some ⟨d, 0, none⟩), .int .i64 ((p : Int) + (k : Int))] wr fun e w' => ∃ gq cap, e = .returned (.tuple #[.slice (some ⟨gq, 0, none⟩) 256 cap, .int .i64 0]) ∧ Fresh w' gq x ∧ wr.heap.size ≤ gq ∧ Below wr.heap.size wr w') := hrd
      have HO : Hid (Own wr w.heap.size u8 (secs M.S p k)) := hown
      have HB : Hid (Below w.heap.size w wr) := hnx
      have HSS2 : Hid (secs M.S p (k + 1) = secs M.S p k ++ x.data.toList) := hss
      have HSL : Hid ((secs M.S p k).length = 256 * k ∧ x.size = 256) := ⟨hsl, hssz⟩
      clear hrd hx hown hnx hss hsl hssz hik hadd
      go_wp2_with fail
      (with_reducible refine Calls.mono HRD.out ?_)
      rintro e w2 ⟨gx, cx, rfl, hf2, hg2, hb2⟩
      have hbb : Below w.heap.size w w2 := HB.out.trans (hb2.mono HB.out.size)
      have hO2 : Own w2 w.heap.size u8 (secs M.S p k) := keeps_below (w := wr) hb2 _ _ _ _ _ _ HO.out
      have hby : Bytes w2 (some ⟨gx, 0, none⟩) x.data.toList := hf2.bytes
      have hl256 : x.data.toList.length = 256 := by simp; exact HSL.out.2
      have hsz2 := hbb.size
      have HOB : Hid (∀ j, u8.ownBlock = some j → w.heap.size ≤ j) := fun j hj => (owns_lt HO.out j hj).1
      have HBB : Hid (Below w.heap.size w w2) := hbb
      clear hf2 hg2 hb2 hbb HRD HO HB
      go_wp2_with (at_builtin; refine wpList_append_bytes rfl (.tmp 28) (.tmp 29) rfl w.heap.size _ (secs M.S p k) rfl hO2 (some ⟨gx, 0, none⟩) x.data.toList cx (by rw [hl256]; rfl) hby (fun h => by cases h) (by rw [HSL.out.1, hl256]; omega) hsz2 ?_; intro v3 w3 ho3 hg3)
      go_roundw
      case rel => exact ⟨k + 1, by omega, by go_num, by rw [HSS2.out]; exact ho3, HBB.out.grown hg3 hsz2 HOB.out⟩
      case measure => simp [intOf]; omega
    · obtain rfl : k = n := by omega
      have hown2 := hown
      obtain ⟨a, c, rfl, hby, hno, hlc, hob⟩ := hown.open
      rw [HLN.out] at hlc ⊢
      rcases hby with h0 | ⟨b, off, rfl, hbl, hcs⟩
      · have := HLN.out
        rw [h0] at this
        simp at this
        omega
      · have hcs' : Bytes wr (some ⟨b, off, none⟩) (secs M.S p k) := .inr ⟨b, off, rfl, hbl, hcs⟩
        have HBY : Hid (Bytes wr (some ⟨b, off, none⟩) (secs M.S p k)) := hcs'
        have HBG : Hid (w.heap.size ≤ b) := (show _ ≤ _ from (owns_lt hown2 b (by simp [Value.ownBlock])).1)
        have hsc : (size : Int) ≤ (c : Int) := by omega
        have hsc0 : (0 : Int) ≤ (size : Int) := by omega
        clear hcs hcs' hob hno hown2
        go_wp2
        go_ret2
        exact ⟨some ⟨b, off, none⟩, c, rfl, HBY.out.take size, ⟨b, off, rfl, HBG.out⟩, by omega, by omega, hnx⟩

set_option maxHeartbeats 2000000 in
set_option maxRecDepth 20000 in
theorem sread_none (d p : Nat) (w : World) :
    Calls Try.prog 74 #[.pointer (some ⟨d, 0, none⟩), .int .i64 (p : Int), .int .i64 0] w fun e w' => e = .returned (.tuple #[.slice none 0 0, .int .i64 0]) ∧ w = w' := by
  have hse := count_any 0 w (by omega)
  rw [show sect 0 = 0 from rfl] at hse
  go_enter Try.func74, Try.ntmps74
  go_wp2_with fail
  refine Calls.mono hse ?_
  rintro e w1 ⟨rfl, rfl⟩
  clear hse
  go_wp2
  go_loopw [8, 14] (fun v i wr => v = .slice none 0 0 ∧ i = .int .i64 0 ∧ wr = w) (fun _ _ _ => 0)
  case atStart => exact ⟨rfl, rfl, rfl⟩
  case round =>
    obtain ⟨rfl, rfl, rfl⟩ := hrel
    go_wp2
    go_ret2
    exact ⟨rfl, rfl⟩

set_option maxHeartbeats 2000000 in
set_option maxRecDepth 20000 in
theorem sread_dead (d p : Nat) (size : Nat) (w : World) (F : Nat → Prop) (M : D) (h : Dev w F d M) (hs : M.st = 2) (h1 : 1 ≤ size) (hsz : size ≤ 9223372036854775807) (hp : p ≤ 4096) :
    Calls Try.prog 74 #[.pointer (some ⟨d, 0, none⟩), .int .i64 (p : Int), .int .i64 (size : Int)] w fun e w' => e = .returned (.tuple #[.slice none 0 0, .int .i64 50]) ∧ w = w' := by
  have hse := count_any size w hsz
  have hn1 : 1 ≤ sect size := by unfold sect; omega
  obtain ⟨n, hn⟩ : ∃ n, n = sect size := ⟨_, rfl⟩
  rw [← hn] at hse hn1
  have hrd := read_dead d (p : Int) w F M h hs
  have hni : (0 : Int) < (n : Int) := by omega
  clear h hn hs
  go_enter Try.func74, Try.ntmps74
  go_wp2_with fail
  refine Calls.mono hse ?_
  rintro e w1 ⟨rfl, rfl⟩
  clear hse
  go_wp2
  go_loopw [8, 14] (fun v i wr => v = .slice none 0 0 ∧ i = .int .i64 0 ∧ wr = w) (fun _ _ _ => 0)
  case atStart => exact ⟨rfl, rfl, rfl⟩
  case round =>
    obtain ⟨rfl, rfl, rfl⟩ := hrel
    go_wp2_with (go_at_call 58; (with_reducible refine Calls.mono hrd ?_); rintro e w2 ⟨rfl, rfl⟩)
    go_ret2
    exact ⟨rfl, rfl⟩
end Go.Proofs.Ytecljiefljgfmaa
/-
  The library's contracts of math/bits.Mul and strings.Repeat (the shelf's, proved once over any program), laid at this program.
-/
namespace Go.Proofs
open Go.Shelf
def Ytecljiefljgfmaa.lays264_ren : Go.Shelf.Ren := ⟨fun | 264 => 90 | n => n, fun | 53 => 22 | 46 => 119 | n => n, fun | n => n⟩
theorem Ytecljiefljgfmaa.lays264 : Go.Proofs.Lays.n264 Try.prog Ytecljiefljgfmaa.lays264_ren := {
  mixed := by kernel_rfl
  f264 := Try.func90.trans (congrArg some (by kernel_rfl))
  t46 := Try.underlying119
  a46 := Try.isAgg119
  z46 := Try.sizeOf119
  v46 := Try.zeroValue119
  t53 := Try.underlying22
  a53 := Try.isAgg22
  z53 := Try.sizeOf22
  v53 := Try.zeroValue22 }
open Go.RowKit Go.Lib in
theorem Ytecljiefljgfmaa.bits_Mul64 (x y : Nat) (hx : x < 18446744073709551616) (hy : y < 18446744073709551616) (w : World) :
    Calls Try.prog 90 #[.int .u64 x, .int .u64 y] w fun e w' => e = .returned (.tuple #[.int .u64 ((x * y / 18446744073709551616 : Nat) : Int), .int .u64 ((x * y % 18446744073709551616 : Nat) : Int)]) ∧ w' = w := Any.bits_Mul64 Ytecljiefljgfmaa.lays264 x y hx hy w
def Ytecljiefljgfmaa.lays212_ren : Go.Shelf.Ren := ⟨fun | 212 => 67 | 263 => 89 | 264 => 90 | n => n, fun | 46 => 119 | 51 => 134 | 146 => 141 | 53 => 22 | 148 => 143 | n => n, fun | n => n⟩
theorem Ytecljiefljgfmaa.lays212 : Go.Proofs.Lays.n212 Try.prog Ytecljiefljgfmaa.lays212_ren := {
  mixed := by kernel_rfl
  f212 := Try.func67.trans (congrArg some (by kernel_rfl))
  f263 := Try.func89.trans (congrArg some (by kernel_rfl))
  f264 := Try.func90.trans (congrArg some (by kernel_rfl))
  t46 := Try.underlying119
  a46 := Try.isAgg119
  z46 := Try.sizeOf119
  v46 := Try.zeroValue119
  t51 := Try.underlying134
  a51 := Try.isAgg134
  z51 := Try.sizeOf134
  v51 := Try.zeroValue134
  t53 := Try.underlying22
  a53 := Try.isAgg22
  z53 := Try.sizeOf22
  v53 := Try.zeroValue22
  t146 := Try.underlying141
  a146 := Try.isAgg141
  z146 := Try.sizeOf141
  v146 := Try.zeroValue141
  t148 := Try.underlying143
  a148 := Try.isAgg143
  z148 := Try.sizeOf143
  v148 := Try.zeroValue143 }
open Go.RowKit Go.Lib in
theorem Ytecljiefljgfmaa.bits_Mul (x y : Nat) (hx : x < 18446744073709551616) (hy : y < 18446744073709551616) (w : World) :
    Calls Try.prog 67 #[.int .u64 x, .int .u64 y] w fun e w' => e = .returned (.tuple #[.int .u64 ((x * y / 18446744073709551616 : Nat) : Int), .int .u64 ((x * y % 18446744073709551616 : Nat) : Int)]) ∧ w' = w := Any.bits_Mul Ytecljiefljgfmaa.lays212 x y hx hy w
def Ytecljiefljgfmaa.lays105_ren : Go.Shelf.Ren := ⟨fun | 105 => 37 | 212 => 67 | 99 => 68 | 165 => 69 | 166 => 70 | 170 => 71 | 169 => 72 | 263 => 89 | 264 => 90 | 206 => 91 | 240 => 92 | 241 => 93 | 276 => 98 | 277 => 99 | n => n, fun | 9 => 9 | 3 => 3 | 4 => 4 | 20 => 20 | 0 => 0 | 46 => 119 | 109 => 120 | 5 => 5 | 72 => 125 | 76 => 128 | 51 => 134 | 146 => 141 | 53 => 22 | 148 => 143 | 70 => 123 | 37 => 50 | 75 => 127 | 127 => 145 | 164 => 152 | 80 => 85 | n => n, fun | n => n⟩
theorem Ytecljiefljgfmaa.lays105 : Go.Proofs.Lays.n105 Try.prog Ytecljiefljgfmaa.lays105_ren := {
  mixed := by kernel_rfl
  f99 := Try.func68.trans (congrArg some (by kernel_rfl))
  f105 := Try.func37.trans (congrArg some (by kernel_rfl))
  f165 := Try.func69.trans (congrArg some (by kernel_rfl))
  f166 := Try.func70.trans (congrArg some (by kernel_rfl))
  f169 := Try.func72.trans (congrArg some (by kernel_rfl))
  f170 := Try.func71.trans (congrArg some (by kernel_rfl))
  f206 := Try.func91.trans (congrArg some (by kernel_rfl))
  f212 := Try.func67.trans (congrArg some (by kernel_rfl))
  f240 := Try.func92.trans (congrArg some (by kernel_rfl))
  f241 := Try.func93.trans (congrArg some (by kernel_rfl))
  f263 := Try.func89.trans (congrArg some (by kernel_rfl))
  f264 := Try.func90.trans (congrArg some (by kernel_rfl))
  f276 := Try.func98.trans (congrArg some (by kernel_rfl))
  f277 := Try.func99.trans (congrArg some (by kernel_rfl))
  t0 := Try.underlying0
  a0 := Try.isAgg0
  z0 := Try.sizeOf0
  v0 := Try.zeroValue0
  t3 := Try.underlying3
  a3 := Try.isAgg3
  z3 := Try.sizeOf3
  v3 := Try.zeroValue3
  t4 := Try.underlying4
  a4 := Try.isAgg4
  z4 := Try.sizeOf4
  v4 := Try.zeroValue4
  t5 := Try.underlying5
  a5 := Try.isAgg5
  z5 := Try.sizeOf5
  v5 := Try.zeroValue5
  t9 := Try.underlying9
  a9 := Try.isAgg9
  z9 := Try.sizeOf9
  v9 := Try.zeroValue9
  t20 := Try.underlying20
  a20 := Try.isAgg20
  z20 := Try.sizeOf20
  v20 := Try.zeroValue20
  t37 := Try.underlying50
  a37 := Try.isAgg50
  z37 := Try.sizeOf50
  v37 := Try.zeroValue50
  t46 := Try.underlying119
  a46 := Try.isAgg119
  z46 := Try.sizeOf119
  v46 := Try.zeroValue119
  t51 := Try.underlying134
  a51 := Try.isAgg134
  z51 := Try.sizeOf134
  v51 := Try.zeroValue134
  t53 := Try.underlying22
  a53 := Try.isAgg22
  z53 := Try.sizeOf22
  v53 := Try.zeroValue22
  t70 := Try.underlying123
  a70 := Try.isAgg123
  z70 := Try.sizeOf123
  v70 := Try.zeroValue123
  t72 := Try.underlying125
  a72 := Try.isAgg125
  z72 := Try.sizeOf125
  v72 := Try.zeroValue125
  t75 := Try.underlying127
  a75 := Try.isAgg127
  z75 := Try.sizeOf127
  v75 := Try.zeroValue127
  t76 := Try.underlying128
  a76 := Try.isAgg128
  z76 := Try.sizeOf128
  v76 := Try.zeroValue128
  t109 := Try.underlying120
  a109 := Try.isAgg120
  z109 := Try.sizeOf120
  v109 := Try.zeroValue120
  t127 := Try.underlying145
  a127 := Try.isAgg145
  z127 := Try.sizeOf145
  v127 := Try.zeroValue145
  t146 := Try.underlying141
  a146 := Try.isAgg141
  z146 := Try.sizeOf141
  v146 := Try.zeroValue141
  t148 := Try.underlying143
  a148 := Try.isAgg143
  z148 := Try.sizeOf143
  v148 := Try.zeroValue143
  t164 := Try.underlying152
  a164 := Try.isAgg152
  z164 := Try.sizeOf152
  v164 := Try.zeroValue152 }
theorem Ytecljiefljgfmaa.Builder_Extra_105 : Builder.Extra Try.prog Ytecljiefljgfmaa.lays105_ren := {
  sizeBuilder := by kernel_rfl
  liesBuilder := by kernel_rfl
  t5 := Try.underlying5
  a5 := Try.isAgg5
  z5 := Try.sizeOf5
  v5 := Try.zeroValue5
  infoByte := by kernel_rfl
  cellsByte := by kernel_rfl
  sizeByte := by kernel_rfl
  neB5 := by decide }
open Go.RowKit Go.Lib in
theorem Ytecljiefljgfmaa.strings_Repeat_main (s : ByteArray) (c : Nat) (w : World) (hc2 : 2 ≤ c) (hc : c ≤ 9223372036854775807) (hlen : s.size * c ≤ 140737488355328) (h0 : 0 < s.size) :
    Calls Try.prog 37 #[.string s, .int .i64 c] w fun e w' => e = .returned (.string ⟨(Lib.repeatL s.data.toList c).toArray⟩) ∧ Below w.heap.size w w' := Any.strings_Repeat_main Ytecljiefljgfmaa.lays105 Ytecljiefljgfmaa.Builder_Extra_105 s c w hc2 hc hlen h0
end Go.Proofs
/-
  slices.Repeat of one text by its contract.
-/
namespace Go.Proofs.Ytecljiefljgfmaa
open Go.RowKit

theorem size9 : (Try.prog.info? 9).map (·.size) = some 1 := by kernel_rfl
/-- The first m of n are b. -/
def fillTo (n m : Nat) (b : ByteArray) : List ByteArray := List.replicate m b ++ List.replicate (n - m) ⟨#[]⟩
theorem made_texts (n : Nat) : (madeCells (Value.string ⟨#[]⟩).cells (n * 1)).toList = scs (List.replicate n ⟨#[]⟩) := by
  apply List.ext_getElem?
  intro i
  simp only [madeCells, scs, Value.cells, Nat.mul_one, List.map_replicate]
  rcases Nat.lt_or_ge i n with h | h
  · simp [h, Nat.mod_one]
  · simp [h]
theorem row_full {w : World} {base e g n : Nat} {xs : List Value} (h : w.ownsRow base e 1 (.slice (some ⟨g, 0, none⟩) n n) n xs) : w.heap[g]? = some (.cells xs.toArray e (0, 0)) := by
  obtain ⟨hl, ⟨hv, _⟩ | ⟨g', cap, cur, hv, _, hh, _, _, hcs, htk⟩⟩ := h
  · simp at hv
  · simp only [Value.slice.injEq, Option.some.injEq, Addr.mk.injEq] at hv
    obtain ⟨⟨rfl, _⟩, _, rfl⟩ := hv
    rw [hh]
    have : cur.toList = xs := by
      rw [← htk, List.take_of_length_le (by simp [hcs])]
    rw [← this]
theorem splice_fill (n m c : Nat) (b : ByteArray) (h : m + c ≤ n) : (scs (fillTo n m b)).take m ++ scs (List.replicate c b) ++ (scs (fillTo n m b)).drop (m + c) = scs (fillTo n (m + c) b) := by
  simp only [scs, fillTo, ← List.map_take, ← List.map_drop, ← List.map_append]
  congr 1
  rw [List.take_append_of_le_length (by simp), List.take_of_length_le (by simp)]
  rw [List.drop_append, List.drop_of_length_le (by simp)]
  simp only [List.length_replicate, List.drop_replicate, List.nil_append, List.append_assoc]
  rw [show n - m - (m + c - m) = n - (m + c) from by omega, ← List.append_assoc, List.replicate_append_replicate]
theorem fill_copy (w : World) (ty : TypeId) (g n m c : Nat) (a : Addr) (sLen sCap dCap : Nat) (b : ByteArray) (hg : w.heap[g]? = some (.cells (scs (fillTo n m b)).toArray 9 (0, 0))) (hm : m ≤ n) (hc : c = Nat.min sLen (n - m)) (hsrc : ∀ j, j < c → w.cell? (a.add j) = some (.string b)) :
    ∃ w', (Builtin.copy_ #[40, 40] ty #[.slice (some ⟨g, m, none⟩) (n - m) dCap, .slice (some a) sLen sCap]).run Try.prog w = .ok (goInt c) w' ∧ w'.heap[g]? = some (.cells (scs (fillTo n (m + c) b)).toArray 9 (0, 0)) ∧ w.grownBy w' (some g) := by
  have hcn : m + c ≤ n := by
    have : c ≤ n - m := by rw [hc]; exact Nat.min_le_right _ _
    omega
  have hsz : (scs (fillTo n m b)).length = n := by simp [scs, fillTo]; omega
  have hl : (scs (List.replicate c b)).length = c := by simp [scs]
  have hrun := run_copy_row (P := Try.prog) w 40 40 ty 9 g m (n - m) dCap a sLen sCap (scs (fillTo n m b)).toArray 9 (scs (List.replicate c b)) Try.underlying40 size9 hg (by rw [hl, hc]) (by
    intro j v hv
    have hj : j < c := by
      have := (List.getElem?_eq_some_iff.1 hv).1
      rw [hl] at this
      exact this
    rw [hsrc j hj]
    rw [scs_get (by simpa using hj)] at hv
    simpa using hv) (by rw [hl]; simp [hsz]; exact hcn) (scs_one _)
  rw [hl] at hrun
  refine ⟨_, hrun, ?_, ⟨rfl, rfl, rfl, by simp, fun k hk hne => setRow_other w g k _ (by intro e; subst e; exact hne rfl)⟩⟩
  rw [setRow_heap w g _ _ 9 _ hg]
  exact congrArg (fun x => some (Obj.cells (List.toArray x) 9 (0, 0))) (splice_fill n m c b hcn)

theorem slice_from (g n m : Nat) (hm : m < n) (wx : World) : (Instr.slice 40 (.slice (some ⟨g, 0, none⟩) n n) (some (.int .i64 (m : Int))) none none).run Try.prog wx = .ok (.slice (some ⟨g, m, none⟩) (n - m) (n - m)) wx := by
  obtain ⟨i0, hi, hz0, hz1, hz2⟩ := info_parts info9
  simp [Instr.slice, run_underlying Try.underlying40, Instr.sliceBounds, run_sliceBound, sizeOf, typeInfo, hi, hz1, (by omega : (m : Int) ≤ (n : Int)), Addr.add]
  rw [if_neg (by omega)]
  split
  · rename_i h; subst h; rfl
  · rfl
theorem slice_upto (g n m : Nat) (hm : m ≤ n) (wx : World) : (Instr.slice 40 (.slice (some ⟨g, 0, none⟩) n n) none (some (.int .i64 (m : Int))) none).run Try.prog wx = .ok (.slice (some ⟨g, 0, none⟩) m n) wx := by
  obtain ⟨i0, hi, hz0, hz1, hz2⟩ := info_parts info9
  simp [Instr.slice, run_underlying Try.underlying40, Instr.sliceBounds, run_sliceBound, sizeOf, typeInfo, hi, (by omega : (m : Int) ≤ (n : Int)), Addr.add]

set_option maxHeartbeats 4000000 in
set_option maxRecDepth 20000 in
theorem repeat_any (gx n : Nat) (b : ByteArray) (w : World) (hx : w.cell? ⟨gx, 0, none⟩ = some (.string b)) (h1 : 1 ≤ n) (hn : n ≤ 4096) :
    Calls Try.prog 38 #[.slice (some ⟨gx, 0, none⟩) 1 1, .int .i64 (n : Int)] w fun e w' => ∃ v', e = .returned v' ∧ w'.ownsRow w.heap.size 9 1 v' n (scs (List.replicate n b)) ∧ Below w.heap.size w w' := by
  obtain ⟨i0, hi, hz0, hz1, hz2⟩ := info_parts info9
  have hm : i0.bytes * n ≤ 281474976710656 := by rw [hz2]; omega
  have hmul := bits_Mul 1 n (by omega) (by omega) w
  rw [Nat.one_mul, Nat.div_eq_of_lt (by omega : n < 18446744073709551616), Nat.mod_eq_of_lt (by omega : n < 18446744073709551616)] at hmul
  have hni : (n : Int) ≤ 4096 := by omega
  have hni1 : (1 : Int) ≤ (n : Int) := by omega
  go_enter Try.func38, Try.ntmps38
  go_wp2_with fail
  refine Calls.mono hmul ?_
  rintro e w1 ⟨rfl, rfl⟩
  have hfirst : ∀ w0 : World, w0.ownsRow w1.heap.size 9 1 (.slice (some ⟨w1.heap.size, 0, none⟩) n n) n (scs (List.replicate n ⟨#[]⟩)) → w1.grownBy w0 none →
      ∃ w2, (Builtin.copy_ #[40, 40] 3 #[.slice (some ⟨w1.heap.size, 0, none⟩) n n, .slice (some ⟨gx, 0, none⟩) 1 1]).run Try.prog w0 = .ok (goInt 1) w2 ∧ w2.heap[w1.heap.size]? = some (.cells (scs (fillTo n 1 b)).toArray 9 (0, 0)) ∧ Below w1.heap.size w1 w2 := by
    intro w0 ho hg
    have hrow := row_full ho
    obtain ⟨w2, e1, e2, e3⟩ := fill_copy w0 3 w1.heap.size n 0 1 ⟨gx, 0, none⟩ 1 1 n b (by simpa [fillTo] using hrow) (Nat.zero_le _) (by show 1 = min 1 (n - 0); omega) (by
      intro j hj
      obtain rfl : j = 0 := by omega
      exact hg.cell hx (by simp))
    refine ⟨w2, by simpa using e1, by simpa using e2, ?_⟩
    exact ((Below.refl _ w1).grown hg (Nat.le_refl _) (by simp)).grown e3 hg.size (by intro k hk; simp at hk; omega)
  have HFI := (show Hid _ from hfirst)
  clear hfirst
  go_wp2_with (at_make; refine wpList_make_full _ rfl _ _ 40 rfl w1.heap.size 9 i0 (.string ⟨#[]⟩) 1 Try.underlying40 hi hz0 hz1 _ _ _ _ n rfl rfl (by omega) (by omega) hm (by unfold maxLen; omega) (Nat.le_refl _) ?_; intro w0 hown0 hgrow0; rw [made_texts] at hown0; obtain ⟨w2, hcp, hr2, hb2⟩ := HFI.out w0 hown0 hgrow0; clear hown0 hgrow0)
  have HR2 := (show Hid (w2.heap[w1.heap.size]? = some (.cells (scs (fillTo n 1 b)).toArray 9 (0, 0)) ∧ Below w1.heap.size w1 w2) from ⟨hr2, hb2⟩)
  have hx1 := hx
  clear hcp hr2 hb2 hmul HFI hx
  go_loopw [8] (fun q wr => ∃ m : Nat, 1 ≤ m ∧ m ≤ n ∧ q = .int .i64 m ∧ wr.heap[w1.heap.size]? = some (.cells (scs (fillTo n m b)).toArray 9 (0, 0)) ∧ Below w1.heap.size w1 wr)
    (fun q _ => n - (intOf q).toNat)
  case atStart => exact ⟨1, Nat.le_refl _, h1, rfl, HR2.out.1, HR2.out.2⟩
  case round =>
    obtain ⟨m, hm1, hmn, rfl, hr, hb⟩ := hrel
    clear HR2
    by_cases hlt : m < n
    · have hs1 := slice_from w1.heap.size n m hlt
      have hs2 := slice_upto w1.heap.size n m hmn
      obtain ⟨c, hc⟩ : ∃ c, c = Nat.min m (n - m) := ⟨_, rfl⟩
      have hc' : c = min m (n - m) := hc
      have hc1 : 1 ≤ c := by omega
      have hc2 : m + c ≤ n := by omega
      have hcm : c ≤ m := by omega
      obtain ⟨w3, e1, e2, e3⟩ := fill_copy wr.drew 3 w1.heap.size n m c ⟨w1.heap.size, 0, none⟩ m n (n - m) b hr hmn hc (by
        intro j hj
        rw [Addr.add_lit, Nat.zero_add]
        have := cell_blk (w := wr.drew) hr j
        rw [this, List.getElem?_toArray, scs_get (by simp [fillTo]; omega)]
        rw [show (fillTo n m b)[j]'(by simp [fillTo]; omega) = b from by simp [fillTo, show j < m from by omega]])
      have hmi : (m : Int) < (n : Int) := by omega
      have hci : (m : Int) + (c : Int) ≤ 4096 := by omega
      have HE := (show Hid (w3.heap[w1.heap.size]? = some (.cells (scs (fillTo n (m + c) b)).toArray 9 (0, 0)) ∧ wr.drew.grownBy w3 (some w1.heap.size)) from ⟨e2, e3⟩)
      have HB := (show Hid (Below w1.heap.size w1 wr) from hb)
      have HC := (show Hid (1 ≤ c ∧ m + c ≤ n) from ⟨hc1, hc2⟩)
      clear e2 e3 hb hr hc hc' hcm hc1 hc2
      go_wp2
      go_region
      go_wp2
      go_roundw
      case rel =>
        refine ⟨m + c, by have := HC.out; omega, HC.out.2, by simp, HE.out.1, ?_⟩
        exact HB.out.trans (((Below.refl _ wr).drew).trans ((Below.refl _ _).grown HE.out.2 HB.out.size (by intro k hk; simp at hk; omega)))
      case measure => have := HC.out; simp [intOf]; omega
    · obtain rfl : m = n := by omega
      have HR := (show Hid _ from hr)
      clear hr
      go_wp2
      go_ret
      refine ⟨_, rfl, ⟨by simp [scs], .inr ⟨w1.heap.size, m, _, rfl, Nat.le_refl _, HR.out, Nat.le_refl _, by unfold maxLen; omega, by simp [scs, fillTo], ?_⟩⟩, hb⟩
      simp [fillTo, scs]
end Go.Proofs.Ytecljiefljgfmaa
/-
  Bytes laid on sectors and made to last: sectors.Write by its contract.
-/
namespace Go.Proofs.Ytecljiefljgfmaa
open Go.RowKit

theorem slice_lo (b off n c k : Nat) (h1 : k ≤ n) (h3 : k < c) (wx : World) : (Instr.slice 50 (.slice (some ⟨b, off, none⟩) n c) (some (.int .i64 (k : Int))) none none).run Try.prog wx = .ok (.slice (some ⟨b, off + k, none⟩) (n - k) (c - k)) wx := by
  obtain ⟨i0, hi, hz0, hz1, hz2⟩ := info_parts info5
  simp [Instr.slice, run_underlying Try.underlying50, Instr.sliceBounds, run_sliceBound, sizeOf, typeInfo, hi, hz1, (by omega : (k : Int) ≤ (n : Int)), Addr.add]
  rw [if_neg (by omega)]
  split
  · rename_i h; subst h; rfl
  · rfl
theorem slice_hi (a : Option Addr) (n c k : Nat) (h1 : k ≤ c) (wx : World) : (Instr.slice 50 (.slice a n c) none (some (.int .i64 (k : Int))) none).run Try.prog wx = .ok (.slice a k c) wx := by
  obtain ⟨i0, hi, hz0, hz1, hz2⟩ := info_parts info5
  cases a with
  | none =>
    simp [Instr.slice, run_underlying Try.underlying50, Instr.sliceBounds, run_sliceBound, sizeOf, typeInfo, hi, (by omega : (k : Int) ≤ (c : Int)), Addr.add]
  | some ad =>
    simp [Instr.slice, run_underlying Try.underlying50, Instr.sliceBounds, run_sliceBound, sizeOf, typeInfo, hi, (by omega : (k : Int) ≤ (c : Int)), Addr.add]

/-- Writes one behind the other, up to the first that fails. -/
def wrs (M : D) (p : Nat) : List ByteArray → Int × D
  | [] => (0, M)
  | b :: r => if (M.wr (p : Int) b).1 ≠ 0 then M.wr (p : Int) b else wrs (M.wr (p : Int) b).2 (p + 1) r
def wrsF (M : D) (p : Nat) (xs : List ByteArray) : Int × D := if (wrs M p xs).1 ≠ 0 then wrs M p xs else (wrs M p xs).2.flush

theorem wr_cap (M : D) (i : Int) (b : ByteArray) : (M.wr i b).2.C.length ≤ M.C.length + 1 := by
  unfold D.wr
  split
  · exact Nat.le_succ _
  · split
    · rw [M.burn_L.2.2]; omega
    · show (M.C ++ [(i.toNat, b)]).length ≤ _; simp

theorem Dev.regrow {w w1 w2 : World} {F : Nat → Prop} {d : Nat} {M : D} (h : Dev w2 (Grow (Grow F w w1) w1 w2) d M) (h1 : w.heap.size ≤ w1.heap.size) (h2 : w1.heap.size ≤ w2.heap.size) : Dev w2 (Grow F w w2) d M := by
  obtain ⟨q1, q2, lv, sv, cv, q3, q4⟩ := h
  refine ⟨q1, ?_, lv, sv, cv, q3, fun k hk => Grow.trans h1 h2 (q4 k hk)⟩
  intro k hk
  rcases hk with hk | hk
  · exact q2 k (.inl (.inl hk))
  · exact hk.2

/-- A sector of a frame, and all of them. -/
def fsec (P : List UInt8) (j : Nat) : List UInt8 := (P.drop (256 * j)).take 256
def fsecB (P : List UInt8) (j : Nat) : ByteArray := ⟨(fsec P j).toArray⟩
def fsecs (P : List UInt8) (n : Nat) : List ByteArray := (List.range n).map (fsecB P)
def zsec : ByteArray := ⟨(List.replicate 256 (0 : UInt8)).toArray⟩
theorem fsec_length {P : List UInt8} {n j : Nat} (hP : P.length = 256 * n) (hj : j < n) : (fsec P j).length = 256 := by
  rw [fsec, List.length_take, List.length_drop, hP]; omega
theorem fsec_bytes {w : World} {b : Nat} {P : List UInt8} (h : Bytes w (some ⟨b, 0, none⟩) P) (j : Nat) : Bytes w (some ⟨b, 256 * j, none⟩) (fsec P j) := by
  have := (h.drop (256 * j)).take 256
  rwa [Nat.zero_add] at this

theorem flush_burn (M : D) (h : M.flush.1 = 0) : M.flush.2.C = [] := by
  unfold D.flush at h ⊢
  split
  · rename_i h1; rw [if_pos h1] at h; exact absurd h h1
  · rfl
theorem wrsF_empty (M : D) (p : Nat) (xs : List ByteArray) (h : (wrsF M p xs).1 = 0) : (wrsF M p xs).2.C = [] := by
  unfold wrsF at h ⊢
  split
  · rename_i h1; rw [if_pos h1] at h; exact absurd h h1
  · rename_i h1; rw [if_neg h1] at h; exact flush_burn _ h

theorem Dev.wider {w : World} {F G : Nat → Prop} {d : Nat} {M : D} (h : Dev w F d M) (hFG : ∀ k, F k → G k) (hG : ∀ k, G k → k < w.heap.size) : Dev w G d M := by
  obtain ⟨q1, _, lv, sv, cv, q3, q4⟩ := h
  exact ⟨q1, hG, lv, sv, cv, q3, fun k hk => hFG k (q4 k hk)⟩
theorem Dev.lts {w : World} {F : Nat → Prop} {d : Nat} {M : D} (h : Dev w F d M) : ∀ k, F k → k < w.heap.size := h.2.1

theorem size5 : (Try.prog.info? 5).map (·.size) = some 1 := by kernel_rfl

theorem bytes_row {w : World} {g : Nat} {l : List UInt8} (h : w.heap[g]? = some (.cells (bcs l).toArray 5 (0, 0))) : Bytes w (some ⟨g, 0, none⟩) l := by
  refine .inr ⟨g, 0, rfl, (Array.getElem?_eq_some_iff.1 h).1, fun j hj => ?_⟩
  rw [Nat.zero_add, cell_blk h j, List.getElem?_toArray, bcs_get hj]
theorem Own.addr {w : World} {base : Nat} {v : Value} {l : List UInt8} (h : Own w base v l) (hl : 0 < l.length) : ∃ g cap, v = .slice (some ⟨g, 0, none⟩) l.length cap ∧ l.length ≤ cap ∧ base ≤ g ∧ g < w.heap.size := owns_head h hl

/-- Noughts behind the bytes, up to the last sector's end. -/
def padTo (b : List UInt8) : List UInt8 := b ++ List.replicate (256 * sect b.length - b.length) 0
def psecs (b : List UInt8) : List ByteArray := fsecs (padTo b) (sect b.length)
theorem padTo_length (b : List UInt8) : (padTo b).length = 256 * sect b.length := by
  rw [padTo, List.length_append, List.length_replicate]
  have := sect_le b.length
  omega
theorem psecs_length (b : List UInt8) : (psecs b).length = sect b.length := by simp [psecs, fsecs]
theorem padTo_fsec {b : List UInt8} {k : Nat} (hk : 256 * k < b.length) : fsec (padTo b) k = (b.drop (256 * k)).take 256 ++ List.replicate (256 - ((b.drop (256 * k)).take 256).length) 0 := by
  rw [fsec, padTo, List.drop_append_of_le_length (by omega), List.take_append, List.take_replicate]
  congr 2
  simp only [List.length_drop, List.length_take]
  unfold sect
  omega

/-- Bytes copied to the head of a row of noughts. -/
theorem copy_part (w : World) (ty : TypeId) (g N sLen sCap : Nat) (a : Addr) (m : List UInt8) (hg : w.heap[g]? = some (.cells (bcs (List.replicate N 0)).toArray 5 (0, 0))) (hm : m.length = min sLen N) (hsrc : ∀ j u, (bcs m)[j]? = some u → w.cell? (a.add j) = some u) :
    ∃ w', (Builtin.copy_ #[50, 50] ty #[.slice (some ⟨g, 0, none⟩) N N, .slice (some a) sLen sCap]).run Try.prog w = .ok (goInt m.length) w' ∧ w'.heap[g]? = some (.cells (bcs (m ++ List.replicate (N - m.length) 0)).toArray 5 (0, 0)) ∧ w.grownBy w' (some g) := by
  have hl : (bcs m).length = m.length := bcs_length m
  have hrun := run_copy_row (P := Try.prog) w 50 50 ty 5 g 0 N N a sLen sCap (bcs (List.replicate N 0)).toArray 5 (bcs m) Try.underlying50 size5 hg (by rw [hl, hm]) hsrc (by simp [bcs]; omega) (bcs_one _)
  rw [hl] at hrun
  refine ⟨_, hrun, ?_, ⟨rfl, rfl, rfl, by simp, fun k hk hne => setRow_other w g k _ (by intro e; subst e; exact hne rfl)⟩⟩
  rw [setRow_heap w g _ _ 5 _ hg]
  have e : (bcs (List.replicate N 0)).toArray.toList.take 0 ++ bcs m ++ (bcs (List.replicate N 0)).toArray.toList.drop (0 + m.length) = bcs (m ++ List.replicate (N - m.length) 0) := by
    simp [bcs, List.drop_replicate]
  exact congrArg (fun x => some (Obj.cells (List.toArray x) 5 (0, 0))) e
theorem Bytes.cells {w : World} {b off : Nat} {l : List UInt8} (h : Bytes w (some ⟨b, off, none⟩) l) : ∀ j u, (bcs l)[j]? = some u → w.cell? ((⟨b, off, none⟩ : Addr).add j) = some u := by
  intro j u hu
  have hj : j < l.length := by
    rw [← bcs_length]
    exact (List.getElem?_eq_some_iff.1 hu).1
  rw [bcs_get hj] at hu
  rcases h with h0 | ⟨b', off', e, _, hc⟩
  · rw [h0] at hj; simp at hj
  · simp only [Option.some.injEq, Addr.mk.injEq, and_true] at e
    obtain ⟨rfl, rfl⟩ := e
    rw [Addr.add_lit, hc j hj]
    exact hu

set_option maxHeartbeats 4000000 in
set_option maxRecDepth 100000 in
theorem swrite_any (d p : Nat) (a : Option Addr) (b : List UInt8) (cap : Nat) (w : World) (F : Nat → Prop) (M : D) (h : Dev w F d M) (hb : Bytes w a b) (hab : b ≠ [] → ∀ ad, a = some ad → ¬ F ad.block) (hcap : b.length ≤ cap) (hC : M.C.length + sect b.length ≤ 100000) (hp : p ≤ 100000) :
    Calls Try.prog 61 #[.pointer (some ⟨d, 0, none⟩), .int .i64 (p : Int), .slice a b.length cap] w fun e w' => e = .returned (.int .i64 (wrsF M p (psecs b)).1) ∧ Dev w' (Grow F w w') d (wrsF M p (psecs b)).2 ∧ Turn F w w' := by
  obtain ⟨i0, hi, hz0, hz1, hz2⟩ := info_parts info5
  have hm : i0.bytes * 256 ≤ 281474976710656 := by rw [hz2]; omega
  obtain ⟨n, hn⟩ : ∃ n, n = sect b.length := ⟨_, rfl⟩
  have hse := count_any b.length w (by unfold sect at hn hC; omega)
  rw [← hn] at hse hC
  have HB : Hid (Bytes w a b ∧ (b ≠ [] → ∀ ad, a = some ad → ¬ F ad.block)) := ⟨hb, hab⟩
  have HD : Hid (Dev w (Grow F w w) d M) := (show Dev w (Grow F w w) d M from h.grow)
  have HFL : Hid (∀ k, F k → k < w.heap.size) := h.2.1
  have hln : 256 * n < b.length + 256 := by rw [hn]; unfold sect; omega
  have hln2 : b.length ≤ 256 * n := by rw [hn]; exact sect_le _
  have HPL : Hid ((psecs b).length = n) := (show _ = _ from by rw [psecs_length, hn])
  have HPS : Hid (∀ k (hk : k < n), (psecs b).drop k = fsecB (padTo b) k :: (psecs b).drop (k + 1)) := (by
    intro k hk
    rw [List.drop_eq_getElem_cons (by rw [psecs_length, ← hn]; exact hk)]
    congr 1
    simp [psecs, fsecs])
  clear h hb hab hn
  go_enter Try.func61, Try.ntmps61
  go_wp2_with fail
  refine Calls.mono hse ?_
  rintro e w1 ⟨rfl, rfl⟩
  clear hse
  go_wp2
  go_loopw [13] (fun i wr => ∃ (k : Nat) (N : D), k ≤ n ∧ i = .int .i64 k ∧ Dev wr (Grow F w wr) d N ∧ Turn F w wr ∧ N.C.length ≤ M.C.length + k ∧ wrs M p (psecs b) = wrs N (p + k) ((psecs b).drop k)) (fun i _ => n - (intOf i).toNat)
  case atStart => exact ⟨0, M, Nat.zero_le _, rfl, HD.out, Turn.refl _ _, by omega, rfl⟩
  case round =>
    obtain ⟨k, N, hk, rfl, hN, hT, hNC, hwr⟩ := hrel
    clear HD
    by_cases hltk : k < n
    · rw [HPS.out k hltk, wrs] at hwr
      have hki : (k : Int) < (n : Int) := by omega
      have hne : b ≠ [] := by rintro rfl; simp at hln; omega
      obtain ⟨bb, off, rfl, hbl, hcs⟩ : ∃ bb off, a = some ⟨bb, off, none⟩ ∧ bb < w.heap.size ∧ True := by
        rcases HB.out.1 with h0 | ⟨b', off', e, h1, _⟩
        · exact absurd h0 hne
        · exact ⟨b', off', e, h1, trivial⟩
      have hbF : ¬ F bb := HB.out.2 hne _ rfl
      have hpt : Bytes wr (some ⟨bb, off + 256 * k, none⟩) ((b.drop (256 * k)).take 256) := ((HB.out.1.turn hT (HB.out.2 hne)).drop (256 * k)).take 256
      have hfs := padTo_fsec (b := b) (k := k) (by omega)
      obtain ⟨q, hq⟩ : ∃ q, q = 256 * k := ⟨_, rfl⟩
      have hml : ((b.drop (256 * k)).take 256).length = min (b.length - q) 256 := by rw [List.length_take, List.length_drop, ← hq]; omega
      obtain ⟨m, hmE⟩ : ∃ m, m = (b.drop (256 * k)).take 256 := ⟨_, rfl⟩
      rw [← hmE] at hpt hfs hml
      rw [← hq] at hpt
      have hq2 : (k : Int) * 256 = (q : Int) := by omega
      have hsl : ∀ wx, (Instr.slice 50 (.slice (some ⟨bb, off, none⟩) b.length cap) (some (.int .i64 (q : Int))) none none).run Try.prog wx = .ok (.slice (some ⟨bb, off + q, none⟩) (b.length - q) (cap - q)) wx := fun wx => slice_lo bb off b.length cap q (by omega) (by omega) wx
      obtain ⟨t, ht⟩ : ∃ t, t = p + k := ⟨_, rfl⟩
      have ht2 : (p : Int) + (k : Int) = (t : Int) := by omega
      rw [← ht] at hwr
      have hcap' := wr_cap N (t : Int) (fsecB (padTo b) k)
      obtain ⟨ev, hev⟩ : ∃ ev, ev = (N.wr (t : Int) (fsecB (padTo b) k)).1 := ⟨_, rfl⟩
      obtain ⟨N2, hN2⟩ : ∃ N2, N2 = (N.wr (t : Int) (fsecB (padTo b) k)).2 := ⟨_, rfl⟩
      have hpair : N.wr (t : Int) (fsecB (padTo b) k) = (ev, N2) := by rw [hev, hN2]
      rw [hpair] at hwr hcap'
      have HW : Hid (∀ w5, w5.ownsRow wr.heap.size 5 1 (.slice (some ⟨wr.heap.size, 0, none⟩) 256 256) 256 (bcs (List.replicate 256 0)) → wr.grownBy w5 none → ∃ w6, (Builtin.copy_ #[50, 50] 3 #[.slice (some ⟨wr.heap.size, 0, none⟩) 256 256, .slice (some ⟨bb, off + q, none⟩) (b.length - q) (cap - q)]).run Try.prog w5 = .ok (goInt m.length) w6 ∧
          Calls Try.prog 21 #[.pointer (some ⟨d, 0, none⟩), .int .i64 (t : Int), .slice (some ⟨wr.heap.size, 0, none⟩) 256 256] w6 fun e w' => e = .returned (.int .i64 ev) ∧ Dev w' (Grow F w w') d N2 ∧ Turn F w w') := (by
        intro w5 ho5 hg5
        have hb5 : Below wr.heap.size wr w5 := (Below.refl _ _).grown hg5 (Nat.le_refl _) (by simp)
        have hrow5 := row_full ho5
        obtain ⟨w6, e1, e2, e3⟩ := copy_part w5 3 wr.heap.size 256 (b.length - q) (cap - q) ⟨bb, off + q, none⟩ m hrow5 hml (Bytes.cells (hpt.below hb5 (Nat.le_refl _)))
        refine ⟨w6, e1, ?_⟩
        have hb6 : Below wr.heap.size wr w6 := hb5.grown e3 hb5.size (fun k e => by simp only [Option.some.injEq] at e; omega)
        rw [← hfs] at e2
        have hl6 : (fsec (padTo b) k).length = 256 := by rw [hfs, List.length_append, List.length_replicate, hml]; omega
        have hwc := write_any d (t : Int) (some ⟨wr.heap.size, 0, none⟩) (fsec (padTo b) k) 256 w6 (Grow F w wr) N (hN.below hb6) (bytes_row e2) (by
          intro ad e hf
          simp only [Option.some.injEq] at e
          subst e
          have hz := hT.size
          rcases hf with hf | hf
          · have := HFL.out _ hf; simp at this; omega
          · simp at hf) (by omega)
        rw [hl6, show (⟨(fsec (padTo b) k).toArray⟩ : ByteArray) = fsecB (padTo b) k from rfl, hpair] at hwc
        refine Calls.mono hwc ?_
        rintro e w7 ⟨rfl, hD7, hT7⟩
        have hT6 : Turn (Grow F w wr) wr w7 := (Turn.of_below hb6).trans' hT7
        refine ⟨rfl, hD7.wider ?_ ?_, hT.trans hT6⟩
        · intro j hj
          have := hT.size; have := hb6.size; have := hT7.size
          rcases hj with (hj | hj) | hj
          · exact .inl hj
          · exact .inr ⟨hj.1, by omega⟩
          · exact .inr ⟨by omega, hj.2⟩
        · intro j hj
          have := hT.size; have := hb6.size; have := hT7.size
          rcases hj with hj | hj
          · have := HFL.out j hj; omega
          · exact hj.2)
      have HWR : Hid (wrs M p (psecs b) = if ev ≠ 0 then (ev, N2) else wrs N2 (t + 1) ((psecs b).drop (k + 1))) := hwr
      have HTK : Hid (t = p + k) := ht
      have HCP : Hid (N2.C.length ≤ M.C.length + (k + 1)) := (show _ ≤ _ from by have : N2.C.length ≤ N.C.length + 1 := hcap'; omega)
      have hqb : q < b.length := by omega
      have hqc : q < cap := by omega
      clear hN hT hwr hpt hfs hev hN2 hcap' hpair hNC ht hml hmE hne hbF hq
      by_cases h0 : ev = 0
      · subst h0
        go_wp2_with (first
          | (at_make; refine wpList_make_full _ rfl _ _ 50 rfl wr.heap.size 5 i0 (.int .u8 0) 1 Try.underlying50 hi hz0 hz1 _ _ _ _ 256 rfl rfl (by first | rfl | omega) (by first | rfl | omega) hm (by unfold maxLen; omega) (Nat.le_refl _) ?_; intro w5 ho5 hg5; rw [made_bytes] at ho5; obtain ⟨w6, hcp, hwc⟩ := HW.out w5 ho5 hg5; clear ho5 hg5)
          | (go_at_call 21; refine Calls.mono hwc ?_; rintro e w7 ⟨rfl, hD7, hT7⟩))
        go_roundw
        case rel => exact ⟨k + 1, N2, by omega, by go_num, hD7, hT7, HCP.out, by rw [HWR.out, if_neg (by simp), HTK.out]; rfl⟩
        case measure => simp [intOf]; omega
      · have hb0 : (ev != 0) = true := by rw [bne_iff_ne]; exact h0
        have HE : Hid (wrsF M p (psecs b) = (ev, N2)) := (show _ = _ from by rw [wrsF, HWR.out, if_pos h0, if_pos h0])
        clear h0
        go_wp2_with (first
          | (at_make; refine wpList_make_full _ rfl _ _ 50 rfl wr.heap.size 5 i0 (.int .u8 0) 1 Try.underlying50 hi hz0 hz1 _ _ _ _ 256 rfl rfl (by first | rfl | omega) (by first | rfl | omega) hm (by unfold maxLen; omega) (Nat.le_refl _) ?_; intro w5 ho5 hg5; rw [made_bytes] at ho5; obtain ⟨w6, hcp, hwc⟩ := HW.out w5 ho5 hg5; clear ho5 hg5)
          | (go_at_call 21; refine Calls.mono hwc ?_; rintro e w7 ⟨rfl, hD7, hT7⟩))
        go_ret
        rw [HE.out]
        exact ⟨rfl, hD7, hT7⟩
    · obtain rfl : k = n := by omega
      rw [List.drop_eq_nil_of_le (by rw [HPL.out]; exact Nat.le_refl _)] at hwr
      have hfl := flush_any d wr (Grow F w wr) N hN (by omega)
      have HE : Hid (wrsF M p (psecs b) = N.flush) := (show _ = _ from by rw [wrsF, hwr]; simp [wrs])
      have HT : Hid (Turn F w wr) := hT
      clear hN hT hwr hNC
      go_wp2_with (go_at_call 87; refine Calls.mono hfl ?_; rintro e w5 ⟨rfl, hD5, hT5⟩)
      go_ret
      rw [HE.out]
      exact ⟨rfl, hD5.grow.regrow HT.out.size hT5.size, HT.out.trans hT5⟩
end Go.Proofs.Ytecljiefljgfmaa
