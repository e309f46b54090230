/-
  Package blob's Open by its contract.
-/
import Derived.Test.YtpmjkgpmidejoaaBlobR2
import Derived.Test.YtpmjkgpmidejoaaBlobA2
namespace Go.Proofs.Ytpmjkgpmidejoaa
open Go.RowKit
open Al (Spc Kep turnB putB)

/-- Refs in memory. -/
def Refs (w : World) (a : Option Addr) (rs : List (Int × Int)) : Prop := (∀ r ∈ rs, r.1 ≤ 9223372036854775807 ∧ r.2 ≤ 9223372036854775807) ∧
  (rs = [] ∨ ∃ b off, a = some ⟨b, off, none⟩ ∧ b < w.heap.size ∧ ∀ j (h : j < rs.length), w.cell? ⟨b, off + j * 2, none⟩ = some (.int .i64 rs[j].1) ∧ w.cell? ⟨b, off + j * 2 + 1, none⟩ = some (.int .i64 rs[j].2))
theorem Refs.at {w : World} {a : Option Addr} {rs : List (Int × Int)} (h : Refs w a rs) {j : Nat} (hj : j < rs.length) : ∃ b off, a = some ⟨b, off, none⟩ ∧ ∀ w', Below w.heap.size w w' → w'.cell? ⟨b, off + j * 2, none⟩ = some (.int .i64 rs[j].1) ∧ w'.cell? ⟨b, off + j * 2 + 1, none⟩ = some (.int .i64 rs[j].2) := by
  rcases h.2 with h0 | ⟨b, off, rfl, hb, hc⟩
  · rw [h0] at hj; simp at hj
  · exact ⟨b, off, rfl, fun w' hw => ⟨(hw.cell (p := ⟨b, off + j * 2, none⟩) hb).trans (hc j hj).1, (hw.cell (p := ⟨b, off + j * 2 + 1, none⟩) hb).trans (hc j hj).2⟩⟩
/-- What the Refs take, one by one. -/
def markAll : List Bool → List (Int × Int) → Option (List Bool)
  | L, [] => some L
  | L, r :: rs => if markR L r.1 r.2 then markAll (markL L r.1 r.2) rs else none
theorem markL_len {L : List Bool} {st sz : Int} : (markL L st sz).length = L.length := by
  unfold markL
  split
  · rfl
  · split
    · rename_i h
      obtain ⟨h1, h2, h3, _⟩ := Al.turnB_iff.1 h
      exact Al.putB_len _ (by omega)
    · rfl
theorem markAll_len : ∀ (rs : List (Int × Int)) (L L' : List Bool), markAll L rs = some L' → L'.length = L.length
  | [], L, L', h => by simp [markAll] at h; rw [h]
  | r :: rs, L, L', h => by
    rw [markAll] at h
    split at h
    · rw [markAll_len rs _ _ h, markL_len]
    · cases h

/-- What Open tells. -/
def OpenR (w : World) (d fr : Nat) (R : Option (List Bool)) (e : Ending) (w' : World) : Prop :=
  (∃ L b s, R = some L ∧ e = .returned (.tuple #[.pointer (some ⟨b, 0, none⟩), .int .i64 0]) ∧ Blb w' b d s fr ∧ Spc w' s L ∧ w.heap.size ≤ b ∧ w.heap.size ≤ s ∧ b ≠ s) ∨
       (R = none ∧ e = .returned (.tuple #[.pointer none, .int .i64 62]))

set_option maxHeartbeats 4000000 in
set_option maxRecDepth 100000 in
theorem bopen_ok (w : World) (d fr n : Nat) (F : Nat → Prop) (M : D) (hd : Dev w F d M) (hn : fr + n ≤ M.L.length) (a : Option Addr) (rs : List (Int × Int)) (cap : Nat) (hr : Refs w a rs) (hrl : rs.length ≤ 1000000) :
    Calls Try.prog 11 #[.pointer (some ⟨d, 0, none⟩), .int .i64 (fr : Int), .int .i64 (n : Int), .slice a rs.length cap] w fun e w' => Below w.heap.size w w' ∧
      OpenR w d fr (markAll (List.replicate n false) rs) e w' := by
  have htop := hd.1.top
  have hwi := within_yes d fr n w F M hd hn
  have hnew := Al.new_ok w n (by omega)
  have HBD : Hid (∀ r ∈ rs, r.1 ≤ 9223372036854775807 ∧ r.2 ≤ 9223372036854775807) := hr.1
  have HRA := fun {j : Nat} (hj : j < rs.length) => hr.at hj
  obtain ⟨R, hR⟩ : ∃ R, R = markAll (List.replicate n false) rs := ⟨_, rfl⟩
  rw [← hR]
  have HR : Hid (R = markAll (List.replicate n false) rs) := hR
  obtain ⟨m, hm⟩ : ∃ m, m = rs.length := ⟨_, rfl⟩
  rw [← hm] at hrl ⊢
  have HM : Hid (m = rs.length) := hm
  have HRA2 : Hid (∀ j (hj : j < rs.length), ∃ b off, a = some ⟨b, off, none⟩ ∧ ∀ w', Below w.heap.size w w' → w'.cell? ⟨b, off + j * 2, none⟩ = some (.int .i64 rs[j].1) ∧ w'.cell? ⟨b, off + j * 2 + 1, none⟩ = some (.int .i64 rs[j].2)) := fun j hj => HRA hj
  clear hd hr hR hm HRA
  go_enter Try.func11, Try.ntmps11
  go_wp2_with (first
    | (go_at_call 35; refine Calls.mono hwi ?_; rintro e w1 ⟨rfl, rfl⟩)
    | (go_at_call 36; refine Calls.mono hnew ?_; rintro e w1 ⟨rfl, hs1, hb1⟩))
  have HI : Hid (Spc w1 w.heap.size (List.replicate n false) ∧ Below w.heap.size w w1) := ⟨hs1, hb1⟩
  clear hs1 hb1 hwi hnew
  go_loopw [29] (fun i wr => ∃ (k : Nat) (L : List Bool), k ≤ m ∧ i = .int .i64 k ∧ Spc wr w.heap.size L ∧ Below w.heap.size w wr ∧ R = markAll L (rs.drop k)) (fun i _ => m - (intOf i).toNat)
  case atStart => exact ⟨0, _, Nat.zero_le _, rfl, HI.out.1, HI.out.2, HR.out⟩
  case round =>
    obtain ⟨k, L, hk, rfl, hsp, hbw, hrk⟩ := hrel
    clear HI HR
    by_cases hlt : k < m
    · have hki : (k : Int) < (m : Int) := by omega
      have hkl : k < rs.length := by have := HM.out; omega
      obtain ⟨bb, off, rfl, hcc⟩ := HRA2.out k hkl
      obtain ⟨c0, c1⟩ := hcc wr hbw
      obtain ⟨hb1, hb2⟩ := HBD.out _ (List.getElem_mem hkl)
      rw [List.drop_eq_getElem_cons hkl, markAll] at hrk
      obtain ⟨st, hst⟩ : ∃ st, st = rs[k].1 := ⟨_, rfl⟩
      obtain ⟨sz, hsz⟩ : ∃ sz, sz = rs[k].2 := ⟨_, rfl⟩
      rw [← hst, ← hsz] at hrk
      rw [← hst] at c0 hb1
      rw [← hsz] at c1 hb2
      have hA : Below wr.heap.size wr (wr.alloc (.cells #[.int .i64 st, .int .i64 sz] 40)) := (Below.refl _ wr).alloc (Nat.le_refl _) _
      have htm := turn_mark (wr.alloc (.cells #[.int .i64 st, .int .i64 sz] 40)) w.heap.size L st sz (hsp.below hA) hb1 hb2
      have HN : Hid (∀ w2, Spc w2 w.heap.size (markL L st sz) → Kep (fun k => k ≠ w.heap.size) (wr.alloc (.cells #[.int .i64 st, .int .i64 sz] 40)) w2 → Below w.heap.size w w2) := fun w2 _ q => (hbw.trans (hA.mono hbw.size)).trans ((q.mono (K' := fun k => k < w.heap.size) fun k _ h2 => by omega).below (by have := hbw.size; simp; omega))
      by_cases hmk : markR L st sz = true
      · rw [if_pos hmk] at hrk
        rw [hmk, if_pos rfl] at htm
        have HRK : Hid (R = markAll (markL L st sz) (rs.drop (k + 1))) := hrk
        clear hrk hsp hbw hA hst hsz hcc hmk hkl HRA2
        go_wp2_with (go_at_call 37; refine Calls.mono htm ?_; rintro e w2 ⟨rfl, q1, q2⟩; have HQ : Hid (Spc w2 w.heap.size (markL L st sz) ∧ Below w.heap.size w w2) := ⟨q1, HN.out w2 q1 q2⟩; clear q1 q2)
        go_roundw
        case rel => exact ⟨k + 1, _, by omega, by go_num, HQ.out.1, HQ.out.2, HRK.out⟩
        case measure => simp [intOf]; omega
      · rw [if_neg hmk] at hrk
        rw [if_neg hmk] at htm
        have HRK : Hid (R = none) := hrk
        clear hrk hsp hbw hA hst hsz hcc hmk hkl HRA2
        go_wp2_with (go_at_call 37; refine Calls.mono htm ?_; rintro e w2 ⟨rfl, q1, q2⟩; have HQ : Hid (Spc w2 w.heap.size (markL L st sz) ∧ Below w.heap.size w w2) := ⟨q1, HN.out w2 q1 q2⟩; clear q1 q2)
        go_ret2
        exact ⟨HQ.out.2, .inr ⟨HRK.out, rfl⟩⟩
    · obtain rfl : k = m := by omega
      have hki : ¬ (k : Int) < (k : Int) := by omega
      rw [HM.out, List.drop_length, markAll] at hrk
      have HQ : Hid (Spc wr w.heap.size L ∧ Below w.heap.size w wr ∧ R = some L) := ⟨hsp, hbw, hrk⟩
      clear hsp hbw hrk
      go_wp2
      go_ret2
      have hA : Below wr.heap.size wr (wr.alloc (.cells #[.pointer (some ⟨d, 0, none⟩), .int .i64 (fr : Int), .pointer (some ⟨w.heap.size, 0, none⟩)] 91)) := (Below.refl _ wr).alloc (Nat.le_refl _) _
      have hz := HQ.out.2.1.size
      have hsl := HQ.out.1.lt
      exact ⟨HQ.out.2.1.trans (hA.mono hz), .inl ⟨L, wr.heap.size, w.heap.size, HQ.out.2.2, rfl, heap_alloc_new wr _, HQ.out.1.below hA, hz, Nat.le_refl _, by omega⟩⟩
end Go.Proofs.Ytpmjkgpmidejoaa
