/-
  Package blob's unit by its contract: a unit's data, if it is whole.
-/
import Derived.Test.YtpmjkgpmidejoaaRun17
namespace Go.Proofs.Ytpmjkgpmidejoaa
open Go.RowKit

theorem conv_cap (s : ByteArray) (w : World) : ∃ W1 cap, (convert 9 38 (.string s)).run Try.prog w = .ok (.slice (some ⟨w.heap.size, 0, none⟩) s.size cap) W1 ∧ Fresh W1 w.heap.size s ∧ Below w.heap.size w W1 ∧ s.size ≤ cap := by
  obtain ⟨W1, cap, h1, h2, h3⟩ := conv_fresh s w
  refine ⟨W1, cap, h1, h2, h3, ?_⟩
  have h4 := run_bytes_of_string w 9 38 5 s Try.underlying9 Try.underlying38 Try.underlying5
  rw [h1] at h4
  simp only [Result.ok.injEq, Value.slice.injEq] at h4
  rw [h4.1.2.2]
  exact grownCap_ge w s.size 0 5
set_option maxHeartbeats 1000000 in
theorem read_cap (d i : Nat) (w : World) (F : Nat → Prop) (M : D) (h : Dev w F d M) (hs : M.st ≠ 2) (hi : i < M.S.length) :
    Calls Try.prog 30 #[.pointer (some ⟨d, 0, none⟩), .int .i64 (i : Int)] w fun e w' => ∃ g cap, e = .returned (.tuple #[.slice (some ⟨g, 0, none⟩) M.S[i].size cap, .int .i64 0]) ∧ Fresh w' g M.S[i] ∧ w.heap.size ≤ g ∧ Below w.heap.size w w' ∧ M.S[i].size ≤ cap := by
  have hhas := has_any d i w F M h
  rw [decide_eq_true (show (0 : Int) ≤ (i : Int) ∧ (i : Int) < (M.S.length : Int) from ⟨by omega, by omega⟩)] at hhas
  obtain ⟨gl, cl, gs, cs, ca, cc, hV, _⟩ := h.open
  have c3 := cell_blk hV.blk 3
  have c1 := cell_blk hV.blk 1
  simp only [List.getElem?_toArray] at c3 c1
  have ci := owns_cell hV.sr (scs_get hi)
  have hs' : ((M.st : Int) == 2) = false := by simp; omega
  obtain ⟨s, hse⟩ : ∃ s, s = M.S[i] := ⟨_, rfl⟩
  rw [← hse] at ci ⊢
  obtain ⟨W1, cap, hcv, hfr, hb, hcp⟩ := conv_cap s w
  have hi' : (i : Int) < (M.S.length : Int) := by omega
  have HF := (show Hid (Fresh W1 w.heap.size s ∧ Below w.heap.size w W1 ∧ s.size ≤ cap) from ⟨hfr, hb, hcp⟩)
  clear hV h hs hse hfr hb hi hcp
  go_enter Try.func30, Try.ntmps30
  go_wp2_with fail
  refine hhas.mono ?_
  rintro e w1 ⟨rfl, rfl⟩
  go_wp2
  go_ret2
  exact ⟨_, _, rfl, HF.out.1, Nat.le_refl _, HF.out.2.1, HF.out.2.2⟩

/-- What reading a unit tells: the error, and the data where there is none. -/
def unE (M : D) (i : Nat) : Int := if M.st = 2 then 50 else if (M.S.getD i default).data.toList = sealL ((M.S.getD i default).data.toList.drop 4) then 0 else 62
def unL (M : D) (i : Nat) : List UInt8 := (M.S.getD i default).data.toList.drop 4

set_option maxHeartbeats 2000000 in
set_option maxRecDepth 20000 in
theorem unit_any (w : World) (b d s fr u : Nat) (F : Nat → Prop) (M : D) (h : Blb w b d s fr) (hd : Dev w F d M) (hi : fr + u < M.S.length) (hS : ∀ x ∈ M.S, x.size = 256) :
    Calls Try.prog 50 #[.pointer (some ⟨b, 0, none⟩), .int .i64 (u : Int)] w fun e w' => ∃ a n c, e = .returned (.tuple #[.slice a n c, .int .i64 (unE M (fr + u))]) ∧ Below w.heap.size w w' ∧ (unE M (fr + u) = 0 → ∃ g, a = some ⟨g, 4, none⟩ ∧ n = 252 ∧ 252 ≤ c ∧ w.heap.size ≤ g ∧ Bytes w' (some ⟨g, 4, none⟩) (unL M (fr + u))) := by
  have hlen : M.S.length ≤ 4096 := by rw [hd.1.len]; exact hd.1.top
  have k0 := h.c0
  have k1 := h.c1
  have hwa : IntKind.i64.wrap ((fr : Int) + (u : Int)) = (fr : Int) + (u : Int) := by rw [IntKind.wrap_i64]; omega
  have hdd : Dev w.drew F d M := hd.below ((Below.refl _ w).drew)
  by_cases hs : M.st = 2
  · have e : unE M (fr + u) = 50 := by rw [unE, if_pos hs]
    rw [e]
    have hrd := read_dead d ((fr : Int) + (u : Int)) w.drew F M hdd hs
    clear h hd hdd hi hS hlen e hs
    go_enter Try.func50, Try.ntmps50
    go_wp2
    go_region_held3 (fun w' => w'.cell? ⟨b, 0, none⟩ = some (.pointer (some ⟨d, 0, none⟩)) ∧ w'.cell? ⟨b, 1, none⟩ = some (.int .i64 (fr : Int))) (go_keep)
      (first
        | (go_at_call 30; (with_reducible refine Calls.mono hrd ?_); rintro e w2 ⟨rfl, rfl⟩))
    go_wp2
    go_ret2
    exact ⟨_, _, _, rfl, (Below.refl _ w).drew, fun h => by omega⟩
  · have hrd := read_cap d (fr + u) w.drew F M hdd hs hi
    have hx : M.S.getD (fr + u) default = M.S[fr + u] := by simp [List.getD, List.getElem?_eq_getElem hi]
    have hsz : (M.S[fr + u]).size = 256 := hS _ (List.getElem_mem _)
    have hE : unE M (fr + u) = if (M.S[fr + u]).data.toList = sealL ((M.S[fr + u]).data.toList.drop 4) then 0 else 62 := by rw [unE, if_neg hs, hx]
    have hU : unL M (fr + u) = (M.S[fr + u]).data.toList.drop 4 := by rw [unL, hx]
    rw [hE, hU]
    obtain ⟨x, hxx⟩ : ∃ x, x = M.S[fr + u] := ⟨_, rfl⟩
    rw [← hxx] at hrd hsz ⊢
    rw [hsz, show ((fr + u : Nat) : Int) = (fr : Int) + (u : Int) from by omega] at hrd
    have hln : x.data.toList.length = 256 := by simpa using hsz
    obtain ⟨l, hl⟩ : ∃ l, l = x.data.toList := ⟨_, rfl⟩
    rw [← hl] at hln ⊢
    obtain ⟨E, hEE⟩ : ∃ E : Int, E = if l = sealL (l.drop 4) then 0 else 62 := ⟨_, rfl⟩
    rw [← hEE]
    have HE : Hid (E = if l = sealL (l.drop 4) then 0 else 62) := hEE
    clear hEE
    have HR : Hid (Calls Try.prog 30 #[.pointer (some ⟨d, 0, none⟩), .int .i64 ((fr : Int) + (u : Int))] w.drew fun e w' => ∃ g cap, e = .returned (.tuple #[.slice (some ⟨g, 0, none⟩) 256 cap, .int .i64 0]) ∧ w'.cell? ⟨b, 0, none⟩ = some (.pointer (some ⟨d, 0, none⟩)) ∧ w'.cell? ⟨b, 1, none⟩ = some (.int .i64 (fr : Int)) ∧ Hid (Bytes w' (some ⟨g, 0, none⟩) l ∧ w.heap.size ≤ g ∧ Below w.heap.size w w' ∧ 256 ≤ cap)) := hrd.mono fun e w' ⟨g, cap, q1, q2, q3, q4, q5⟩ => ⟨g, cap, q1, (h.below ((Below.refl _ w).drew.trans q4)).c0, (h.below ((Below.refl _ w).drew.trans q4)).c1, by rw [hl]; exact q2.bytes, q3, (Below.refl _ w).drew.trans q4, q5⟩
    clear h hd hdd hi hS hlen hs hrd hx hE hU hsz hl hxx
    go_enter Try.func50, Try.ntmps50
    go_wp2
    go_region_held3 (fun w' => w'.cell? ⟨b, 0, none⟩ = some (.pointer (some ⟨d, 0, none⟩)) ∧ w'.cell? ⟨b, 1, none⟩ = some (.int .i64 (fr : Int))) (go_keep)
      (first
        | (go_at_call 30; (with_reducible refine Calls.mono HR.out ?_); rintro e w2 ⟨g, cap, rfl, s0, s1, HB⟩))
    clear s0 s1 k0 k1 HR
    have hsl : ∀ wx, (Instr.slice 38 (.slice (some ⟨g, 0, none⟩) 256 cap) (some (.int .i64 4)) none none).run Try.prog wx = .ok (.slice (some ⟨g, 4, none⟩) 252 (cap - 4)) wx := fun wx => by
      have := slice_lo g 0 256 cap 4 (by omega) (by have := HB.out.2.2.2; omega) wx
      exact this
    have hdl : (l.drop 4).length = 252 := by rw [List.length_drop, hln]
    have hby4 : Bytes w2 (some ⟨g, 4, none⟩) (l.drop 4) := by
      have := HB.out.1.drop 4
      rwa [Nat.zero_add] at this
    have hse := seal_any w2 g 4 (cap - 4) (l.drop 4) (by omega) hby4
    rw [hdl] at hse
    have hsel : (sealL (l.drop 4)).length = 256 := sealL_length (by omega)
    have HEQ : Hid (∀ w3, w3.heap[w2.heap.size]? = some (.cells (bcs (sealL (l.drop 4))).toArray 5 (0, 0)) → Below w2.heap.size w2 w3 → Calls Try.prog 76 #[.slice (some ⟨g, 0, none⟩) 256 cap, .slice (some ⟨w2.heap.size, 0, none⟩) 256 256] w3 fun e w' => e = .returned (.bool (decide (l = sealL (l.drop 4)))) ∧ w3 = w') := (by
      intro w3 q1 q2
      have := equal_any (some ⟨g, 0, none⟩) (some ⟨w2.heap.size, 0, none⟩) l (sealL (l.drop 4)) cap 256 w3 (HB.out.1.below q2 (Nat.le_refl _)) (bytes_row q1)
      rwa [hln, hsel] at this)
    clear hsel hdl hln
    by_cases hq : l = sealL (l.drop 4)
    · obtain rfl : E = 0 := by rw [HE.out, if_pos hq]
      rw [decide_eq_true hq] at HEQ
      have HBY : Hid (Bytes w2 (some ⟨g, 4, none⟩) (l.drop 4)) := hby4
      clear hq hby4
      go_wp2_with (first
        | (go_at_call 74; refine Calls.mono hse ?_; rintro e w3 ⟨rfl, q1, q2⟩; have heq := HEQ.out w3 q1 q2; have HQ : Hid (Below w2.heap.size w2 w3) := q2; clear q1 q2)
        | (go_at_call 76; refine Calls.mono heq ?_; rintro e w4 ⟨rfl, rfl⟩))
      go_ret2
      refine ⟨_, _, _, rfl, HB.out.2.2.1.trans (HQ.out.mono HB.out.2.2.1.size), ⟨g, rfl, rfl, ?_, HB.out.2.1, HBY.out.below HQ.out (Nat.le_refl _)⟩⟩
      have := HB.out.2.2.2
      omega
    · obtain rfl : E = 62 := by rw [HE.out, if_neg hq]
      rw [decide_eq_false hq] at HEQ
      clear hq hby4
      go_wp2_with (first
        | (go_at_call 74; refine Calls.mono hse ?_; rintro e w3 ⟨rfl, q1, q2⟩; have heq := HEQ.out w3 q1 q2; have HQ : Hid (Below w2.heap.size w2 w3) := q2; clear q1 q2)
        | (go_at_call 76; refine Calls.mono heq ?_; rintro e w4 ⟨rfl, rfl⟩))
      go_ret2
      exact ⟨_, _, _, rfl, HB.out.2.2.1.trans (HQ.out.mono HB.out.2.2.1.size), fun h => by omega⟩
end Go.Proofs.Ytpmjkgpmidejoaa
/-
  Package blob's Read by its contract.
-/
namespace Go.Proofs.Ytpmjkgpmidejoaa
open Go.RowKit
open Al (Spc Kep turnB putB)

/-- The units from the i-th on, as Read goes over them: the error, or the bytes. -/
def rdGo (M : D) (base off n : Nat) : Nat → Nat → List UInt8 → Int × List UInt8
  | 0, _, acc => (0, acc)
  | f + 1, i, acc => if min (off + n - 252 * i) 252 ≤ off - 252 * i then rdGo M base off n f (i + 1) acc
    else if unE M (base + i) ≠ 0 then (unE M (base + i), [])
    else rdGo M base off n f (i + 1) (acc ++ ((unL M (base + i)).drop (off - 252 * i)).take (min (off + n - 252 * i) 252 - (off - 252 * i)))
/-- What Read tells. -/
def rdF (M : D) (L : List Bool) (fr : Nat) (st sz off n : Int) : Int × List UInt8 :=
  if giveR L st sz = true ∧ 0 ≤ off ∧ 0 ≤ n ∧ n ≤ sz - off then rdGo M (fr + st.toNat) off.toNat n.toNat (nsec sz.toNat) 0 [] else (1, [])

/-- A Ref whose units are all taken. -/
theorem giveR_nat {L : List Bool} {st sz : Int} (h : giveR L st sz = true) : ∃ S Z : Nat, st = (S : Int) ∧ sz = (Z : Int) ∧ S + nsec Z ≤ max L.length 0 ∧ (∀ i, i < nsec Z → L[S + i]? = some true) := by
  unfold giveR at h
  rw [Bool.or_eq_true] at h
  rcases h with h | h
  · simp at h
    obtain ⟨rfl, rfl⟩ := h
    exact ⟨0, 0, rfl, rfl, by simp [nsec], fun i hi => by simp [nsec] at hi⟩
  · obtain ⟨h1, h2, h3, h4⟩ := Al.turnB_iff.1 h
    have h5 : 0 < sz := by
      unfold secI at h2
      split at h2 <;> omega
    obtain ⟨S, rfl⟩ : ∃ S : Nat, st = (S : Int) := ⟨st.toNat, by omega⟩
    obtain ⟨Z, rfl⟩ : ∃ Z : Nat, sz = (Z : Int) := ⟨sz.toNat, by omega⟩
    rw [secI_nat] at h3 h4
    exact ⟨S, Z, rfl, rfl, by omega, by simpa [Al.allB] using h4⟩

set_option maxHeartbeats 4000000 in
set_option maxRecDepth 100000 in
theorem bread_arg (w : World) (b d s fr : Nat) (F : Nat → Prop) (M : D) (L : List Bool) (h : St w b d s fr F M L) (st sz off n : Int) (h1 : st ≤ 9223372036854775807) (h2 : sz ≤ 9223372036854775807) (h3 : off ≤ 9223372036854775807) (h4 : n ≤ 9223372036854775807)
    (hbad : ¬ (giveR L st sz = true ∧ 0 ≤ off ∧ 0 ≤ n ∧ n ≤ sz - off)) :
    Calls Try.prog 15 #[.pointer (some ⟨b, 0, none⟩), rv st sz, .int .i64 off, .int .i64 n] w fun e w' => e = .returned (.tuple #[.slice none 0 0, .int .i64 1]) ∧ Below w.heap.size w w' := by
  have hA : Below w.heap.size w (w.alloc (.cells #[.int .i64 st, .int .i64 sz] 40)) := (Below.refl _ w).alloc (Nat.le_refl _) _
  have hh := holds_any (w.alloc (.cells #[.int .i64 st, .int .i64 sz] 40)) b d s fr L st sz (h.blb.below hA) (h.sp.below hA) h1 h2
  have HB : Hid (∀ w1, Below (w.alloc (.cells #[.int .i64 st, .int .i64 sz] 40)).heap.size (w.alloc (.cells #[.int .i64 st, .int .i64 sz] 40)) w1 → Below w.heap.size w w1 ∧ w1.cell? ⟨w.heap.size, 1, none⟩ = some (.int .i64 sz)) := fun w1 q => ⟨hA.trans (q.mono (by simp)), (q.cell (p := ⟨w.heap.size, 1, none⟩) (by simp)).trans (cell_blk (heap_alloc_new w _) 1)⟩
  have HG := fun hg => @giveR_nat L st sz hg
  obtain ⟨g, hg⟩ : ∃ g, g = giveR L st sz := ⟨_, rfl⟩
  rw [← hg] at hh hbad HG
  clear h hA hg
  cases g with
  | false =>
    clear hbad HG
    go_enter Try.func15, Try.ntmps15
    go_wp2_with (go_at_call 49; refine Calls.mono hh ?_; rintro e w1 ⟨rfl, q1⟩; obtain ⟨q2, q3⟩ := HB.out w1 q1)
    go_ret2
    exact ⟨rfl, q2⟩
  | true =>
    obtain ⟨S, Z, rfl, rfl, -, -⟩ := HG rfl
    clear HG
    by_cases o0 : off < 0
    · clear hbad
      go_enter Try.func15, Try.ntmps15
      go_wp2_with (go_at_call 49; refine Calls.mono hh ?_; rintro e w1 ⟨rfl, q1⟩; obtain ⟨q2, q3⟩ := HB.out w1 q1)
      go_ret2
      exact ⟨rfl, q2⟩
    · by_cases n0 : n < 0
      · clear hbad
        go_enter Try.func15, Try.ntmps15
        go_wp2_with (go_at_call 49; refine Calls.mono hh ?_; rintro e w1 ⟨rfl, q1⟩; obtain ⟨q2, q3⟩ := HB.out w1 q1)
        go_ret2
        exact ⟨rfl, q2⟩
      · have hgt : n > (Z : Int) - off := by
          apply Classical.byContradiction
          intro hc
          exact hbad ⟨rfl, by omega, by omega, by omega⟩
        clear hbad
        go_enter Try.func15, Try.ntmps15
        go_wp2_with (go_at_call 49; refine Calls.mono hh ?_; rintro e w1 ⟨rfl, q1⟩; obtain ⟨q2, q3⟩ := HB.out w1 q1)
        go_ret2
        exact ⟨rfl, q2⟩
end Go.Proofs.Ytpmjkgpmidejoaa
