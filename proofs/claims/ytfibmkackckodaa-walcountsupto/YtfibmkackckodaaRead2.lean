/-
  How a log reads the bytes where its next frame begins.
-/
import Derived.Test.YtfibmkackckodaaStamp
namespace Go.Proofs.Ytfibmkackckodaa
open Go.RowKit

/-- The bytes of k sectors from one on. -/
def secs (S : List ByteArray) (p k : Nat) : List UInt8 := ((S.drop p).take k).flatMap fun x => x.data.toList
theorem secs_succ {S : List ByteArray} {p k : Nat} (h : p + k < S.length) : secs S p (k + 1) = secs S p k ++ S[p + k].data.toList := by
  unfold secs
  have hk : k < (S.drop p).length := by simp; omega
  rw [List.take_succ_eq_append_getElem hk, List.flatMap_append]
  simp
theorem secs_length {S : List ByteArray} (hS : ∀ x ∈ S, x.size = 256) {p : Nat} : ∀ {k : Nat}, p + k ≤ S.length → (secs S p k).length = 256 * k
  | 0, _ => by simp [secs]
  | k + 1, h => by
    rw [secs_succ (by omega), List.length_append, secs_length hS (k := k) (by omega)]
    have : (S[p + k]'(by omega)).size = 256 := hS _ (List.getElem_mem _)
    have e : (S[p + k]'(by omega)).data.toList.length = (S[p + k]'(by omega)).size := by simp
    omega
theorem sect_le (n : Nat) : n ≤ 256 * sect n := by unfold sect; omega

set_option maxHeartbeats 2000000 in
set_option maxRecDepth 20000 in
theorem lread_ok (l d : Nat) (g : G) (size : Nat) (w : World) (F : Nat → Prop) (M : D) (h : Dev w F d M) (hL : LogV w l d g) (hs : M.st ≠ 2) (hS : ∀ x ∈ M.S, x.size = 256) (h1 : 1 ≤ size) (hsz : g.at' + sect size ≤ M.S.length) :
    Calls Try.prog 57 #[.pointer (some ⟨l, 0, none⟩), .int .i64 (size : Int)] w fun e w' => ∃ a c, e = .returned (.tuple #[.slice a size c, .int .i64 0]) ∧ Bytes w' a ((secs M.S g.at' (sect size)).take size) ∧ (∃ b off, a = some ⟨b, off, none⟩) ∧ size ≤ c ∧ 256 ≤ c ∧ Below w.heap.size w w' := by
  have htop : M.S.length ≤ 4096 := by rw [h.1.len]; exact h.1.top
  have hse := sectorsOf_any size w (by unfold sect at hsz; omega)
  have hle := sect_le size
  have hlen : (secs M.S g.at' (sect size)).length = 256 * sect size := secs_length hS hsz
  obtain ⟨n, hn⟩ : ∃ n, n = sect size := ⟨_, rfl⟩
  rw [← hn] at hse hle hsz hlen ⊢
  have hn1 : 1 ≤ n := by omega
  have c0 := cell_blk hL 0
  have c1 := cell_blk hL 1
  simp only [List.getElem?_toArray] at c0 c1
  have hlt : l < w.heap.size := (Array.getElem?_eq_some_iff.1 hL).1
  have HD : Hid (Dev w F d M) := h
  have HLN : Hid ((secs M.S g.at' n).length = 256 * n) := hlen
  have HSS : Hid (∀ x ∈ M.S, x.size = 256) := hS
  have HC0 : Hid (∀ q : World, Below w.heap.size w q → q.cell? ⟨l, 0, none⟩ = some (.pointer (some ⟨d, 0, none⟩)) ∧ q.cell? ⟨l, 1, none⟩ = some (.int .i64 (g.at' : Int))) := fun q hq => ⟨(hq.cell (p := ⟨l, 0, none⟩) hlt).trans c0, (hq.cell (p := ⟨l, 1, none⟩) hlt).trans c1⟩
  clear h hL hn hlen hS c0 c1
  go_enter Try.func57, Try.ntmps57
  go_wp2_with fail
  refine Calls.mono hse ?_
  rintro e w1 ⟨rfl, rfl⟩
  clear hse
  go_wp2
  go_loopw [6, 12] (fun v i wr => ∃ k : Nat, k ≤ n ∧ i = .int .i64 k ∧ Own wr w.heap.size v (secs M.S g.at' k) ∧ Below w.heap.size w wr) (fun _ i _ => n - (intOf i).toNat)
  case atStart => exact ⟨0, Nat.zero_le _, rfl, by rw [secs]; exact World.ownsRow_nil _ _ _ _, Below.refl _ _⟩
  case round =>
    obtain ⟨k, hk, rfl, hown, hnx⟩ := hrel
    by_cases hlt2 : k < n
    · have hik : g.at' + k < M.S.length := by omega
      have hrd := read_ok d (g.at' + k) wr.drew F M (HD.out.below (hnx.drew)) hs hik
      have hssz : (M.S[g.at' + k]).size = 256 := HSS.out _ (List.getElem_mem _)
      have hss := secs_succ (p := g.at') (k := k) hik
      have hsl := secs_length HSS.out (p := g.at') (k := k) (by omega)
      obtain ⟨x, hx⟩ : ∃ x, x = M.S[g.at' + k] := ⟨_, rfl⟩
      rw [← hx] at hrd hssz hss
      rw [hssz] at hrd
      have c0 := (HC0.out wr.drew hnx.drew).1
      have c1 := (HC0.out wr.drew hnx.drew).2
      have hadd : IntKind.i64.wrap ((g.at' : Int) + (k : Int)) = ((g.at' + k : Nat) : Int) := by rw [IntKind.wrap_i64]; omega
      have hki : (k : Int) < (n : Int) := by omega
      have HRD : Hid (Calls Try.prog 49 #[.pointer (some ⟨d, 0, none⟩), .int .i64 ((g.at' + k : Nat) : Int)] wr.drew fun e w' => ∃ gq cap, e = .returned (.tuple #[.slice (some ⟨gq, 0, none⟩) 256 cap, .int .i64 0]) ∧ Fresh w' gq x ∧ wr.drew.heap.size ≤ gq ∧ Below wr.drew.heap.size wr.drew w') := hrd
      have HO : Hid (Own wr w.heap.size u6 (secs M.S g.at' k)) := hown
      have HB : Hid (Below w.heap.size w wr) := hnx
      have HSS2 : Hid (secs M.S g.at' (k + 1) = secs M.S g.at' k ++ x.data.toList) := hss
      have HSL : Hid ((secs M.S g.at' k).length = 256 * k ∧ x.size = 256) := ⟨hsl, hssz⟩
      obtain ⟨p, hp⟩ : ∃ p, p = g.at' + k := ⟨_, rfl⟩
      rw [← hp] at HRD hadd
      clear hrd hx hown hnx hss hsl hssz hp hik
      go_wp2
      go_region_held3 (fun w' => w'.cell? ⟨l, 0, none⟩ = some (.pointer (some ⟨d, 0, none⟩)) ∧ w'.cell? ⟨l, 1, none⟩ = some (.int .i64 (g.at' : Int))) (go_keep)
        (first
          | (go_at_call 49; (with_reducible refine Calls.mono HRD.out ?_); rintro e w2 ⟨gx, cx, rfl, hf2, hg2, hb2⟩; have hbb : Below w.heap.size w w2 := HB.out.drew.trans (hb2.mono HB.out.size); have s0 := (HC0.out w2 hbb).1; have s1 := (HC0.out w2 hbb).2))
      have hO2 : Own w2 w.heap.size u6 (secs M.S g.at' k) := keeps_below (w := wr.drew) hb2 _ _ _ _ _ _ HO.out
      have hby : Bytes w2 (some ⟨gx, 0, none⟩) x.data.toList := hf2.bytes
      have hl256 : x.data.toList.length = 256 := by simp; exact HSL.out.2
      have hsz2 := hbb.size
      have HOB : Hid (∀ j, u6.ownBlock = some j → w.heap.size ≤ j) := fun j hj => (owns_lt HO.out j hj).1
      have HBB : Hid (Below w.heap.size w w2) := hbb
      clear hf2 hg2 hb2 s0 s1 c0 c1 hbb HRD HO HB
      go_wp2_with (at_builtin; refine wpList_append_bytes rfl (.tmp 32) (.tmp 33) rfl w.heap.size _ (secs M.S g.at' k) rfl hO2 (some ⟨gx, 0, none⟩) x.data.toList cx (by rw [hl256]; rfl) hby (fun h => by cases h) (by rw [HSL.out.1, hl256]; omega) hsz2 ?_; intro v3 w3 ho3 hg3)
      go_roundw
      case rel => exact ⟨k + 1, by omega, by go_num, by rw [HSS2.out]; exact ho3, HBB.out.grown hg3 hsz2 HOB.out⟩
      case measure => simp [intOf]; omega
    · obtain rfl : k = n := by omega
      obtain ⟨a, c, rfl, hby, hno, hlc, hob⟩ := hown.open
      rw [HLN.out] at hlc ⊢
      rcases hby with h0 | ⟨b, off, rfl, hbl, hcs⟩
      · have := HLN.out
        rw [h0] at this
        simp at this
        omega
      · have hcs' : Bytes wr (some ⟨b, off, none⟩) (secs M.S g.at' k) := .inr ⟨b, off, rfl, hbl, hcs⟩
        have HBY : Hid (Bytes wr (some ⟨b, off, none⟩) (secs M.S g.at' k)) := hcs'
        have hsc : (size : Int) ≤ (c : Int) := by omega
        have hsc0 : (0 : Int) ≤ (size : Int) := by omega
        clear hcs hcs' hob hno
        go_wp2
        go_ret2
        exact ⟨some ⟨b, off, none⟩, c, rfl, HBY.out.take size, ⟨b, off, rfl⟩, by omega, by omega, hnx⟩

set_option maxHeartbeats 2000000 in
set_option maxRecDepth 20000 in
theorem lread_dead (l d : Nat) (g : G) (size : Nat) (w : World) (F : Nat → Prop) (M : D) (h : Dev w F d M) (hL : LogV w l d g) (hok : g.Ok) (hs : M.st = 2) (h1 : 1 ≤ size) (hsz : size ≤ 4611686018427387904) :
    Calls Try.prog 57 #[.pointer (some ⟨l, 0, none⟩), .int .i64 (size : Int)] w fun e w' => e = .returned (.tuple #[.slice none 0 0, .int .i64 50]) ∧ Below w.heap.size w w' := by
  have hse := sectorsOf_any size w hsz
  have hn1 : 1 ≤ sect size := by unfold sect; omega
  obtain ⟨n, hn⟩ : ∃ n, n = sect size := ⟨_, rfl⟩
  rw [← hn] at hse hn1
  have c0 := cell_blk hL 0
  have c1 := cell_blk hL 1
  simp only [List.getElem?_toArray] at c0 c1
  have hrd := read_dead d (g.at' : Int) w.drew F M (h.below (Below.refl _ w).drew) hs
  have hle := hok.le
  have htop := hok.top
  have d0 : w.drew.cell? ⟨l, 0, none⟩ = some (.pointer (some ⟨d, 0, none⟩)) := c0
  have d1 : w.drew.cell? ⟨l, 1, none⟩ = some (.int .i64 (g.at' : Int)) := c1
  have hw : IntKind.i64.wrap (g.at' : Int) = (g.at' : Int) := by rw [IntKind.wrap_i64]; omega
  have HRD : Hid (Calls Try.prog 49 #[.pointer (some ⟨d, 0, none⟩), .int .i64 (g.at' : Int)] w.drew fun e w' => e = .returned (.tuple #[.slice none 0 0, .int .i64 50]) ∧ w.drew = w') := hrd
  have hni : (0 : Int) < (n : Int) := by omega
  clear h hL hn hrd hok hs
  go_enter Try.func57, Try.ntmps57
  go_wp2_with fail
  refine Calls.mono hse ?_
  rintro e w1 ⟨rfl, rfl⟩
  clear hse
  go_wp2
  go_loopw [6, 12] (fun v i wr => v = .slice none 0 0 ∧ i = .int .i64 0 ∧ wr = w) (fun _ _ _ => 0)
  case atStart => exact ⟨rfl, rfl, rfl⟩
  case round =>
    obtain ⟨rfl, rfl, rfl⟩ := hrel
    go_wp2
    go_region_held3 (fun w' => w'.cell? ⟨l, 0, none⟩ = some (.pointer (some ⟨d, 0, none⟩)) ∧ w'.cell? ⟨l, 1, none⟩ = some (.int .i64 (g.at' : Int))) (go_keep)
      (first
        | (go_at_call 49; (with_reducible refine Calls.mono HRD.out ?_); rintro e w2 ⟨rfl, rfl⟩))
    go_wp2
    go_ret2
    exact ⟨rfl, (Below.refl _ _).drew⟩
end Go.Proofs.Ytfibmkackckodaa
