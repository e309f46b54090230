/-
  New by its contracts.
-/
import Derived.Test.YtpmjkgpmidejoaaRep
import Derived.Test.YtpmjkgpmidejoaaClone
namespace Go.Proofs.Ytpmjkgpmidejoaa
open Go.RowKit

/-- A sector of noughts. -/
def blank : ByteArray := ⟨(List.replicate 256 0).toArray⟩
theorem rep_one (x : UInt8) : ∀ n, Lib.repeatL [x] n = List.replicate n x
  | 0 => rfl
  | n + 1 => by rw [Lib.repeatL, rep_one x n, List.replicate_succ]; rfl
theorem blank_rep : (⟨(Lib.repeatL ([0] : List UInt8) 256).toArray⟩ : ByteArray) = blank := by
  rw [rep_one, blank]

theorem new_bad (n : Int) (w : World) (h : n < 1 ∨ 4096 < n) :
    Calls Try.prog 9 #[.int .i64 n] w fun e w' => e = .returned (.tuple #[.pointer none, .int .i64 1]) ∧ w = w' := by
  rcases (by omega : n < 1 ∨ (¬ n < 1 ∧ 4096 < n)) with h | ⟨h0, h⟩
  · go_enter Try.func9, Try.ntmps9
    go_wp2
    go_ret2
    exact ⟨rfl, rfl⟩
  · go_enter Try.func9, Try.ntmps9
    go_wp2
    go_ret2
    exact ⟨rfl, rfl⟩

theorem new_mem {w3 w4 : World} {d : Nat} {lv sv : Value} {n : Nat} {b : ByteArray} (hl : w3.ownsRow 0 9 1 lv n (scs (List.replicate n b))) (hs : w3.ownsRow 0 9 1 sv n (scs (List.replicate n b))) (hls : ∀ g, lv.ownBlock = some g → sv.ownBlock ≠ some g)
    (h4 : w4 = w3.alloc (.cells #[lv, sv, .slice none 0 0, .int .i64 0, .int .i64 0] 82)) (hd : d = w3.heap.size) : DevV w4 d lv sv (.slice none 0 0) (D.new n b) := by
  subst h4 hd
  have k1 : ∀ g, lv.ownBlock = some g → g < w3.heap.size := fun g hg => (World.ownsRow.lt hl g hg).2
  have k2 : ∀ g, sv.ownBlock = some g → g < w3.heap.size := fun g hg => (World.ownsRow.lt hs g hg).2
  have e : (D.new n b).L.length = n := by simp [D.new]
  have e2 : (D.new n b).S.length = n := by simp [D.new]
  refine ⟨heap_alloc_new w3 _, by rw [e]; exact hl.alloc _, by rw [e2]; exact hs.alloc _, World.ownsRow_nil _ 0 109 2, ?_, ?_, ?_⟩
  · intro g hg
    exact ⟨by have := k1 g hg; omega, hls g hg, by simp [Value.ownBlock]⟩
  · intro g hg
    exact ⟨by have := k2 g hg; omega, by simp [Value.ownBlock]⟩
  · intro g hg
    simp [Value.ownBlock] at hg

set_option maxHeartbeats 2000000 in
theorem new_ok (n : Nat) (w : World) (h1 : 1 ≤ n) (hn : n ≤ 4096) :
    Calls Try.prog 9 #[.int .i64 (n : Int)] w fun e w' => ∃ d, e = .returned (.tuple #[.pointer (some ⟨d, 0, none⟩), .int .i64 0]) ∧ Dev w' (fun k => w.heap.size ≤ k ∧ k < w'.heap.size) d (D.new n blank) ∧ Below w.heap.size w w' := by
  have hrep := strings_Repeat_main ⟨#[0]⟩ 256 w (by omega) (by omega) (by decide) (by decide)
  rw [blank_rep] at hrep
  have hni : (n : Int) ≤ 4096 := by omega
  have hni1 : (1 : Int) ≤ (n : Int) := by omega
  go_enter Try.func9, Try.ntmps9
  go_wp2_with fail
  refine Calls.mono hrep ?_
  rintro e w1 ⟨rfl, hb1⟩
  clear hrep
  go_wp2_with fail
  refine Calls.mono (repeat_any w1.heap.size n blank (w1.alloc (.cells #[.string blank] 9)) (cell_blk (heap_alloc_new w1 _) 0) h1 hn) ?_
  rintro e w2 ⟨v2, rfl, ho2, hb2⟩
  obtain ⟨g2, c2, rfl, _, hg2, hlt2⟩ := owns_head ho2 h1
  have HB2 := (show Hid (Below (w1.alloc (.cells #[.string blank] 9)).heap.size (w1.alloc (.cells #[.string blank] 9)) w2) from hb2)
  have HO2 := (show Hid (w2.ownsRow (w1.alloc (.cells #[.string blank] 9)).heap.size 9 1 (.slice (some ⟨g2, 0, none⟩) n c2) n (scs (List.replicate n blank))) from ho2)
  have HB1 := (show Hid (Below w.heap.size w w1) from hb1)
  have HCL := (show Hid _ from cloneS_any g2 n c2 (List.replicate n blank) w2 (owns_base (base' := 0) ho2 fun _ _ => Nat.zero_le _) hn)
  clear hb2 ho2 hb1
  go_wp2_with fail
  refine Calls.mono HCL.out ?_
  rintro e w3 ⟨v3, rfl, ho3, hb3⟩
  obtain ⟨g3, c3, rfl, _, hg3, hlt3⟩ := owns_head ho3 h1
  have HB3 := (show Hid (Below w2.heap.size w2 w3) from hb3)
  have HO3 := (show Hid (w3.ownsRow w2.heap.size 9 1 (.slice (some ⟨g3, 0, none⟩) n c3) n (scs (List.replicate n blank))) from ho3)
  clear hb3 ho3 HCL
  go_wp2
  go_ret2
  have z1 := HB1.out.size
  have z2 := HB2.out.size
  have z3 := HB3.out.size
  simp at z2 hg2
  have hl3 : w3.ownsRow 0 9 1 (.slice (some ⟨g2, 0, none⟩) n c2) n (scs (List.replicate n blank)) := owns_other (owns_base (base' := 0) HO2.out fun _ _ => Nat.zero_le _) fun j hj => HB3.out.block j (by have hj' : g2 = j := (by simpa [Value.ownBlock] using hj); rw [← hj']; exact hlt2)
  refine ⟨_, rfl, ⟨D.Ok.new h1 hn blank, ?_, _, _, _, new_mem hl3 (owns_base (base' := 0) HO3.out fun _ _ => Nat.zero_le _) (fun g hg e => ?_) rfl rfl, ?_⟩, ?_⟩
  · exact fun k hk => hk.2
  · obtain rfl : g2 = g := by simpa [Value.ownBlock] using hg
    obtain rfl : g3 = g2 := by simpa [Value.ownBlock] using e
    omega
  · intro k hk
    simp only [Foot, Value.ownBlock, Option.some.injEq] at hk
    simp
    rcases hk with hk | hk | hk | hk
    · omega
    · omega
    · omega
    · simp at hk
  · exact (((HB1.out.alloc z1 _).trans (HB2.out.mono (by simp; omega))).trans (HB3.out.mono (by omega))).alloc (by omega) _
end Go.Proofs.Ytpmjkgpmidejoaa
