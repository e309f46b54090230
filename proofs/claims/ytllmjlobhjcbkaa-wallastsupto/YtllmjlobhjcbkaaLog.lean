/-
  A log told by plain numbers; its small functions by their contracts.
-/
import Derived.Test.YtllmjlobhjcbkaaUnpack
import Derived.Test.YtllmjlobhjcbkaaCrc
import Derived.Test.YtllmjlobhjcbkaaWrite
import Derived.Test.YtllmjlobhjcbkaaFlush
import Derived.Test.YtllmjlobhjcbkaaRead
import Derived.Test.YtllmjlobhjcbkaaSects
import Derived.BigRegion
namespace Go.Proofs.Ytllmjlobhjcbkaa
open Go.RowKit

structure G where
  at' : Nat
  fin : Nat
  ep : Nat
  nx : Nat
  fl : Bool

/-- How a log lies in memory. -/
def LogV (w : World) (l d : Nat) (g : G) : Prop :=
  w.heap[l]? = some (.cells #[.pointer (some ⟨d, 0, none⟩), .int .i64 (g.at' : Int), .int .i64 (g.fin : Int), .int .u64 (g.ep : Int), .int .u64 (g.nx : Int), .bool g.fl] 62 (0, 0))

structure G.Ok (g : G) : Prop where
  le : g.at' ≤ g.fin
  top : g.fin ≤ 4096
  ep : g.ep < 18446744073709551616
  nx : g.nx < 4294967296

def needN (L : List ByteArray) : Nat := sect (24 + tot L)

set_option maxHeartbeats 1000000 in
theorem need_any (a : Option Addr) (L : List ByteArray) (cap : Nat) (w : World) (hr : tot L ≤ 140737488355328) (hs : Strs w a L) :
    Calls Try.prog 15 #[.slice a L.length cap] w fun e w' => e = .returned (.int .i64 (needN L : Int)) ∧ w = w' := by
  have hll : L.length ≤ tot L := by
    clear hr hs
    induction L with
    | nil => simp [tot]
    | cons x r ih => simp only [List.length_cons, tot]; omega
  have hse := count_any (24 + tot L) w (by omega)
  have HSE := (show Hid _ from hse)
  clear hse
  go_enter Try.func15, Try.ntmps15
  go_wp2
  go_loop [3, 8] (fun n i => ∃ k : Nat, k ≤ L.length ∧ i = .int .i64 k ∧ n = .int .i64 ((24 + tot (L.take k) : Nat) : Int)) (fun _ i => L.length - (intOf i).toNat)
  case atStart => exact ⟨0, Nat.zero_le _, rfl, rfl⟩
  case round =>
    obtain ⟨k, hk, rfl, rfl⟩ := hrel
    have htk := tot_take L k
    by_cases hlt : k < L.length
    · obtain ⟨b, off, rfl, hbl, hcs⟩ := hs.at hlt
      have hcell : w.cell? ⟨b, off + k, none⟩ = some (.string L[k]) := hcs k hlt
      have HS : Hid (tot (L.take (k + 1)) = tot (L.take k) + (4 + L[k].size)) := tot_snoc L k hlt
      have ht2 : tot (L.take k) + (4 + L[k].size) ≤ tot L := by rw [← HS.out]; exact tot_take L (k + 1)
      clear hcs
      go_wp2
      go_round
      case rel => exact ⟨k + 1, by omega, by go_num, by rw [HS.out]; go_num⟩
      case measure => simp [intOf]; omega
    · have hkl : k = L.length := by omega
      subst hkl
      rw [List.take_length]
      clear htk hlt hk
      go_wp2_with fail
      refine Calls.mono HSE.out ?_
      rintro e w' ⟨rfl, rfl⟩
      go_wp2
      go_ret
      exact ⟨rfl, rfl⟩

theorem room_any (l d : Nat) (g : G) (w : World) (h : LogV w l d g) (hok : g.Ok) :
    Calls Try.prog 14 #[.pointer (some ⟨l, 0, none⟩)] w fun e w' => e = .returned (.int .i64 ((g.fin - g.at' : Nat) : Int)) ∧ w' = w.drew := by
  have c1 := cell_blk h 1
  have c2 := cell_blk h 2
  simp only [List.getElem?_toArray] at c1 c2
  have h1 := hok.le
  have h2 := hok.top
  clear h hok
  go_enter Try.func14, Try.ntmps14
  go_wp2
  go_region
  all_goals go_wp2
  all_goals go_ret
  all_goals exact ⟨ret_int (by omega), rfl⟩
theorem next_any (l d : Nat) (g : G) (w : World) (h : LogV w l d g) :
    Calls Try.prog 18 #[.pointer (some ⟨l, 0, none⟩)] w fun e w' => e = .returned (.int .u64 (g.nx : Int)) ∧ w = w' := by
  have c1 := cell_blk h 4
  simp only [List.getElem?_toArray] at c1
  clear h
  go_enter Try.func18, Try.ntmps18
  go_wp2
  go_ret
  exact ⟨rfl, rfl⟩

/-- Behind the frame of the records. -/
def G.pass (g : G) (L : List ByteArray) : G := { g with at' := g.at' + needN L, nx := g.nx + 1 }

set_option maxHeartbeats 1000000 in
theorem pass_any (l d : Nat) (g : G) (a : Option Addr) (L : List ByteArray) (cap : Nat) (w : World) (h : LogV w l d g) (hok : g.Ok) (hr : tot L ≤ 140737488355328) (hs : Strs w a L) :
    Calls Try.prog 30 #[.pointer (some ⟨l, 0, none⟩), .slice a L.length cap] w fun e w' => e = .returned (.tuple #[]) ∧ LogV w' l d (g.pass L) ∧ Turn (fun k => k = l) w w' := by
  have c1 := cell_blk h 1
  have c4 := cell_blk h 4
  have f1 := frozen_blk h 1
  have f4 := frozen_blk h 4
  simp only [List.getElem?_toArray] at c1 c4
  have hn := need_any a L cap w.drew hr hs
  have hN : needN L ≤ 549755813890 := by unfold needN sect; omega
  have h1 := hok.le
  have h2 := hok.top
  have h4 := hok.nx
  obtain ⟨n, hne⟩ : ∃ n, n = needN L := ⟨_, rfl⟩
  rw [← hne] at hn hN
  have HNE : Hid (n = needN L) := hne
  have HL : Hid (LogV w l d g) := h
  have d1 : w.drew.cell? ⟨l, 1, none⟩ = some (.int .i64 (g.at' : Int)) := c1
  have g1 : w.drew.frozen? ⟨l, 1, none⟩ = false := f1
  have HN := (show Hid _ from hn)
  have hw1 : IntKind.i64.wrap ((g.at' : Int) + (n : Int)) = (g.at' : Int) + (n : Int) := by rw [IntKind.wrap_i64]; omega
  clear h hne hn
  go_enter Try.func30, Try.ntmps30
  go_wp2
  go_region_with (go_at_call 15; refine Calls.mono HN.out ?_; rintro e w1 ⟨rfl, rfl⟩)
  all_goals
    (obtain ⟨w1, hw1e⟩ : ∃ w1, w1 = (w.setCell ⟨l, 1, none⟩ (.int .i64 ((g.at' : Int) + (n : Int)))).drew := ⟨_, rfl⟩
     rw [← hw1e]
     have hL1 : LogV w1 l d { g with at' := g.at' + n } := by
       rw [hw1e]
       exact (set_blk HL.out 1 _).trans (by simp)
     have hT1 : Turn (fun k => k = l) w w1 := by rw [hw1e]; exact ((Turn.refl _ _).setCell (by rfl) _).drew
     have e4 := cell_blk hL1 4
     have e5 := frozen_blk hL1 4
     simp only [List.getElem?_toArray] at e4
     have HL1 : Hid (LogV w1 l d { g with at' := g.at' + n } ∧ Turn (fun k => k = l) w w1) := ⟨hL1, hT1⟩
     clear hL1 hT1 hw1e c1 c4 f1 f4 d1 g1 HN
     go_wp2
     refine bodyPost_end (results_none rfl _ _ _) rfl ?_
     refine ⟨rfl, ?_, HL1.out.2.setCell (by rfl) _⟩
     rw [G.pass, ← HNE.out]
     exact (set_blk HL1.out.1 4 _).trans (by simp))
end Go.Proofs.Ytllmjlobhjcbkaa
