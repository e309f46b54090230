/-
  Units turned: all of them or none.
-/
import Derived.Test.YtpmjkgpmidejoaaRun10
import Derived.RangeFuncCalls
import Derived.WalkMore
namespace Go.Proofs.Ytpmjkgpmidejoaa.Al
open Go.RowKit

set_option maxRecDepth 20000 in
set_option maxHeartbeats 2000000 in
theorem turn_good (w : World) (b : Nat) (L : List Bool) (s k : Nat) (t : Bool) (h : Spc w b L) (hk : 1 ≤ k) (hle : s + k ≤ L.length) (ha : allB L s k t) :
    Calls Try.prog 67 #[.pointer (some ⟨b, 0, none⟩), .int .i64 (s : Int), .int .i64 (k : Int), .bool t] w fun e w' => e = .returned (.int .i64 0) ∧ Spc w' b (putB L s k (!t)) ∧ Kep (fun k => k ≠ b) w w' ∧ w'.heap.size = w.heap.size := by
  have c0 := h.size
  have hl := h.len
  obtain ⟨n, hn⟩ : ∃ n, n = L.length := ⟨_, rfl⟩
  rw [← hn] at c0
  have HN : Hid (n = L.length) := hn
  have HS : Hid (Spc w b L) := h
  have t1 : ¬ (s : Int) < 0 := by omega
  have t2 : ¬ (k : Int) < 1 := by omega
  have t3 : ¬ (n : Int) - (s : Int) < (k : Int) := by omega
  have hs4 : s ≤ 4096 := by omega
  have hk4 : k ≤ 4096 := by omega
  have hn4 : n ≤ 4096 := by omega
  have HA : Hid (allB L s k t) := ha
  have HL : Hid (s + k ≤ L.length) := hle
  clear hn h hl hle ha
  go_enter Try.func67, Try.ntmps67
  go_wp2
  go_loop [28] (fun v => ∃ j : Nat, v = .int .i64 j ∧ j ≤ k) (fun v => k - (intOf v).toNat)
  case atStart => exact ⟨0, rfl, Nat.zero_le _⟩
  case round =>
    obtain ⟨j, rfl, hj⟩ := hrel
    by_cases hlt : j < k
    · have hltI : (j : Int) < (k : Int) := by omega
      have hu : s + j < L.length := by have := HL.out; omega
      have htk := taken_any w b L (s + j) HS.out hu
      have hv : L[s + j] = t := by have := HA.out j hlt; rw [List.getElem?_eq_getElem hu] at this; exact Option.some.inj this
      rw [hv] at htk
      have es : ((s + j : Nat) : Int) = (s : Int) + (j : Int) := by omega
      rw [es] at htk
      clear hv es hu
      go_wp2_with (go_at_call 83; refine Calls.mono htk ?_; rintro e w1 ⟨rfl, rfl⟩)
      go_round
      case rel => exact ⟨j + 1, by go_num, by omega⟩
      case measure => simp [intOf]; omega
    · obtain rfl : j = k := by omega
      have hltI : ¬ (j : Int) < (j : Int) := by omega
      go_wp2
      go_loopw [40] (fun v wr => ∃ i : Nat, v = .int .i64 i ∧ i ≤ j ∧ Spc wr b (putB L s i (!t)) ∧ Kep (fun k => k ≠ b) w wr ∧ wr.heap.size = w.heap.size) (fun v _ => j - (intOf v).toNat)
      case atStart => exact ⟨0, rfl, Nat.zero_le _, by rw [putB_zero]; exact HS.out, Kep.refl _ _, rfl⟩
      case round =>
        obtain ⟨i, rfl, hi, hsp, hkp, hsz⟩ := hrel
        by_cases hlt : i < j
        · have hltI : (i : Int) < (j : Int) := by omega
          have hu : s + i < (putB L s i (!t)).length := by rw [putB_len _ (by have := HL.out; omega)]; have := HL.out; omega
          have hfl := flip_any wr b (putB L s i (!t)) (s + i) hsp hu
          have hv : (putB L s i (!t))[s + i] = t := by
            have h1 := putB_get (!t) (L := L) (s := s) (k := i) (by have := HL.out; omega) (s + i)
            rw [List.getElem?_eq_getElem hu, if_neg (by omega), HA.out i hlt] at h1
            exact Option.some.inj h1
          rw [hv, putB_step (by have := HL.out; omega)] at hfl
          have es : ((s + i : Nat) : Int) = (s : Int) + (i : Int) := by omega
          rw [es] at hfl
          have HK : Hid (Kep (fun k => k ≠ b) w wr ∧ wr.heap.size = w.heap.size) := ⟨hkp, hsz⟩
          clear hv es hu hsp hkp hsz
          go_wp2_with (go_at_call 84; refine Calls.mono hfl ?_; rintro e w1 ⟨⟨v, rfl⟩, q1, q2, q3⟩)
          go_roundw
          case rel => exact ⟨i + 1, by go_num, by omega, q1, HK.out.1.trans q2, q3.trans HK.out.2⟩
          case measure => simp [intOf]; omega
        · obtain rfl : i = j := by omega
          have hltI : ¬ (i : Int) < (i : Int) := by omega
          go_wp2
          go_ret
          exact ⟨rfl, hsp, hkp, hsz⟩

set_option maxRecDepth 20000 in
set_option maxHeartbeats 2000000 in
theorem turn_arg (w : World) (b : Nat) (L : List Bool) (s k : Int) (t : Bool) (h : Spc w b L) (hs : s ≤ 9223372036854775807) (hb : s < 0 ∨ k < 1 ∨ (L.length : Int) - s < k) :
    Calls Try.prog 67 #[.pointer (some ⟨b, 0, none⟩), .int .i64 s, .int .i64 k, .bool t] w fun e w' => e = .returned (.int .i64 1) ∧ w = w' := by
  have c0 := h.size
  have hl := h.len
  obtain ⟨n, hn⟩ : ∃ n, n = L.length := ⟨_, rfl⟩
  rw [← hn] at c0 hb hl
  clear hn h
  by_cases t1 : s < 0
  · clear hb
    go_enter Try.func67, Try.ntmps67
    go_wp2
    go_ret
    exact ⟨rfl, rfl⟩
  · by_cases t2 : k < 1
    · clear hb
      go_enter Try.func67, Try.ntmps67
      go_wp2
      go_ret
      exact ⟨rfl, rfl⟩
    · have t3 : (n : Int) - s < k := by omega
      have t4 : IntKind.i64.wrap ((n : Int) - s) = (n : Int) - s := by rw [IntKind.wrap_i64]; omega
      clear hb
      go_enter Try.func67, Try.ntmps67
      go_wp2
      go_ret
      exact ⟨rfl, rfl⟩

set_option maxRecDepth 20000 in
set_option maxHeartbeats 2000000 in
theorem turn_some (w : World) (b : Nat) (L : List Bool) (s k : Nat) (t : Bool) (h : Spc w b L) (hk : 1 ≤ k) (hle : s + k ≤ L.length) (j0 : Nat) (hj0 : j0 < k) (h1 : allB L s j0 t) (h2 : L[s + j0]? = some (!t)) :
    Calls Try.prog 67 #[.pointer (some ⟨b, 0, none⟩), .int .i64 (s : Int), .int .i64 (k : Int), .bool t] w fun e w' => e = .returned (.int .i64 1) ∧ w = w' := by
  have c0 := h.size
  have hl := h.len
  obtain ⟨n, hn⟩ : ∃ n, n = L.length := ⟨_, rfl⟩
  rw [← hn] at c0
  have HS : Hid (Spc w b L) := h
  have t1 : ¬ (s : Int) < 0 := by omega
  have t2 : ¬ (k : Int) < 1 := by omega
  have t3 : ¬ (n : Int) - (s : Int) < (k : Int) := by omega
  have hs4 : s ≤ 4096 := by omega
  have hk4 : k ≤ 4096 := by omega
  have hn4 : n ≤ 4096 := by omega
  have HA : Hid (allB L s j0 t ∧ L[s + j0]? = some (!t)) := ⟨h1, h2⟩
  have HL : Hid (s + k ≤ L.length) := hle
  clear hn h hl hle h1 h2
  go_enter Try.func67, Try.ntmps67
  go_wp2
  go_loop [28] (fun v => ∃ j : Nat, v = .int .i64 j ∧ j ≤ j0) (fun v => k - (intOf v).toNat)
  case atStart => exact ⟨0, rfl, Nat.zero_le _⟩
  case round =>
    obtain ⟨j, rfl, hj⟩ := hrel
    have hltI : (j : Int) < (k : Int) := by omega
    have hu : s + j < L.length := by have := HL.out; omega
    have htk := taken_any w b L (s + j) HS.out hu
    have es : ((s + j : Nat) : Int) = (s : Int) + (j : Int) := by omega
    by_cases hlt : j < j0
    · have hv : L[s + j] = t := by have := HA.out.1 j hlt; rw [List.getElem?_eq_getElem hu] at this; exact Option.some.inj this
      rw [hv, es] at htk
      clear hv es hu
      go_wp2_with (go_at_call 83; refine Calls.mono htk ?_; rintro e w1 ⟨rfl, rfl⟩)
      go_round
      case rel => exact ⟨j + 1, by go_num, by omega⟩
      case measure => simp [intOf]; omega
    · obtain rfl : j = j0 := by omega
      have hv : L[s + j] = !t := by have := HA.out.2; rw [List.getElem?_eq_getElem hu] at this; exact Option.some.inj this
      rw [hv, es] at htk
      have hne : ((!t) != t) = true := by cases t <;> rfl
      clear hv es hu
      go_wp2_with (go_at_call 83; refine Calls.mono htk ?_; rintro e w1 ⟨rfl, rfl⟩)
      go_ret
      exact ⟨rfl, rfl⟩
theorem allB_first {L : List Bool} {s : Nat} {t : Bool} : ∀ {k : Nat}, s + k ≤ L.length → ¬ allB L s k t → ∃ j, j < k ∧ allB L s j t ∧ L[s + j]? = some (!t)
  | 0, _, h => (h fun _ hi => by omega).elim
  | k + 1, hl, h => by
    by_cases h1 : allB L s k t
    · refine ⟨k, by omega, h1, ?_⟩
      have hu : s + k < L.length := by omega
      rw [List.getElem?_eq_getElem hu]
      by_cases h2 : L[s + k] = t
      · exact (h fun i hi => by
          by_cases e : i = k
          · subst e; rw [List.getElem?_eq_getElem hu, h2]
          · exact h1 i (by omega)).elim
      · cases hx : L[s + k] <;> cases t <;> simp_all
    · obtain ⟨j, h2, h3⟩ := allB_first (k := k) (by omega) h1
      exact ⟨j, by omega, h3⟩

/-- What a turn tells and leaves. -/
theorem turn_any (w : World) (b : Nat) (L : List Bool) (s k : Int) (t : Bool) (h : Spc w b L) (hs : s ≤ 9223372036854775807) :
    Calls Try.prog 67 #[.pointer (some ⟨b, 0, none⟩), .int .i64 s, .int .i64 k, .bool t] w fun e w' =>
      e = .returned (.int .i64 (if turnB L s k t then 0 else 1)) ∧ Spc w' b (if turnB L s k t then putB L s.toNat k.toNat (!t) else L) ∧ Kep (fun k => k ≠ b) w w' ∧ w'.heap.size = w.heap.size := by
  by_cases hb : s < 0 ∨ k < 1 ∨ (L.length : Int) - s < k
  · refine (turn_arg w b L s k t h hs hb).mono ?_
    rintro e w' ⟨rfl, rfl⟩
    have : turnB L s k t = false := by
      rw [Bool.eq_false_iff]
      intro h2
      obtain ⟨a1, a2, a3, _⟩ := turnB_iff.1 h2
      omega
    rw [this]
    exact ⟨rfl, h, Kep.refl _ _, rfl⟩
  · obtain ⟨S, rfl⟩ : ∃ S : Nat, s = (S : Int) := ⟨s.toNat, by omega⟩
    obtain ⟨K, rfl⟩ : ∃ K : Nat, k = (K : Int) := ⟨k.toNat, by omega⟩
    simp only [Int.toNat_natCast]
    by_cases ha : allB L S K t
    · refine (turn_good w b L S K t h (by omega) (by omega) ha).mono ?_
      rintro e w' ⟨rfl, h1, h2⟩
      have : turnB L S K t = true := turnB_iff.2 ⟨by omega, by omega, by omega, by simpa using ha⟩
      rw [this]
      exact ⟨rfl, h1, h2⟩
    · obtain ⟨j, h1, h2, h3⟩ := allB_first (k := K) (by omega) ha
      refine (turn_some w b L S K t h (by omega) (by omega) j h1 h2 h3).mono ?_
      rintro e w' ⟨rfl, rfl⟩
      have : turnB L S K t = false := by
        rw [Bool.eq_false_iff]
        intro h4
        exact ha (by simpa using (turnB_iff.1 h4).2.2.2)
      rw [this]
      exact ⟨rfl, h, Kep.refl _ _, rfl⟩
theorem give_any (w : World) (b : Nat) (L : List Bool) (s k : Int) (h : Spc w b L) (hs : s ≤ 9223372036854775807) :
    Calls Try.prog 44 #[.pointer (some ⟨b, 0, none⟩), .int .i64 s, .int .i64 k] w fun e w' =>
      e = .returned (.int .i64 (if turnB L s k true then 0 else 1)) ∧ Spc w' b (if turnB L s k true then putB L s.toNat k.toNat false else L) ∧ Kep (fun k => k ≠ b) w w' ∧ w'.heap.size = w.heap.size := by
  have ht := turn_any w b L s k true h hs
  obtain ⟨v, hv⟩ : ∃ v : Int, v = (if turnB L s k true then 0 else 1) := ⟨_, rfl⟩
  obtain ⟨L', hL'⟩ : ∃ L', L' = (if turnB L s k true then putB L s.toNat k.toNat false else L) := ⟨_, rfl⟩
  rw [← hv, Bool.not_true, ← hL'] at ht
  rw [← hv, ← hL']
  clear hv hL'
  go_enter Try.func44, Try.ntmps44
  go_wp2_with (go_at_call 67; refine Calls.mono ht ?_; rintro e w1 ⟨rfl, q1⟩)
  go_ret
  exact ⟨rfl, q1⟩
theorem mark_any (w : World) (b : Nat) (L : List Bool) (s k : Int) (h : Spc w b L) (hs : s ≤ 9223372036854775807) :
    Calls Try.prog 38 #[.pointer (some ⟨b, 0, none⟩), .int .i64 s, .int .i64 k] w fun e w' =>
      e = .returned (.int .i64 (if turnB L s k false then 0 else 1)) ∧ Spc w' b (if turnB L s k false then putB L s.toNat k.toNat true else L) ∧ Kep (fun k => k ≠ b) w w' ∧ w'.heap.size = w.heap.size := by
  have ht := turn_any w b L s k false h hs
  obtain ⟨v, hv⟩ : ∃ v : Int, v = (if turnB L s k false then 0 else 1) := ⟨_, rfl⟩
  obtain ⟨L', hL'⟩ : ∃ L', L' = (if turnB L s k false then putB L s.toNat k.toNat true else L) := ⟨_, rfl⟩
  rw [← hv, Bool.not_false, ← hL'] at ht
  rw [← hv, ← hL']
  clear hv hL'
  go_enter Try.func38, Try.ntmps38
  go_wp2_with (go_at_call 67; refine Calls.mono ht ?_; rintro e w1 ⟨rfl, q1⟩)
  go_ret
  exact ⟨rfl, q1⟩
end Go.Proofs.Ytpmjkgpmidejoaa.Al
/-
  The free runs, by the iterator that tells them.
-/
namespace Go.Proofs.Ytpmjkgpmidejoaa.Al
open Go.RowKit Go.Shelf

attribute [local go_sem] Oper.semAt_some

/-- The free runs of what lies from i on, c free ones standing right ahead of i. -/
def rn (i c : Nat) : List Bool → List (Nat × Nat)
  | [] => if c = 0 then [] else [(i - c, c)]
  | true :: r => (if c = 0 then [] else [(i - c, c)]) ++ rn (i + 1) 0 r
  | false :: r => rn (i + 1) (c + 1) r
/-- All free runs. -/
def runsL (L : List Bool) : List (Nat × Nat) := rn 0 0 L
/-- A run as it is told. -/
def encR (x : Nat × Nat) : Array Value := #[.int .i64 (x.1 : Int), .int .i64 (x.2 : Int)]
theorem cell_lt {w : World} {b o : Nat} {v : Value} (h : w.cell? ⟨b, o, none⟩ = some v) : b < w.heap.size := by
  by_cases hb : b < w.heap.size
  · exact hb
  · simp [World.cell?, Array.getElem?_eq_none (Nat.le_of_not_lt hb)] at h
theorem Kep.cell {K : Nat → Prop} {w w' : World} {b o : Nat} {v : Value} (h : Kep K w w') (hk : K b) (hc : w.cell? ⟨b, o, none⟩ = some v) : w'.cell? ⟨b, o, none⟩ = some v := (World.cell?_of_block (h.keep b (cell_lt hc) hk)).trans hc

theorem runs_any (b : Nat) (w : World) :
    Calls Try.prog 70 #[.pointer (some ⟨b, 0, none⟩)] w fun e w' => e = .returned (.func (.func 85) #[] #[.pointer (some ⟨w.heap.size, 0, none⟩)]) ∧ w' = w.alloc (.cells #[.pointer (some ⟨b, 0, none⟩)] 85) := by
  go_enter Try.func70, Try.ntmps70
  go_wp2
  go_ret
  exact ⟨rfl, by simp⟩

set_option maxRecDepth 100000 in
set_option maxHeartbeats 4000000 in
theorem runs_seq (b bs : Nat) (L : List Bool) (w : World) (h : Spc w b L) (c1 : w.cell? ⟨bs, 0, none⟩ = some (.pointer (some ⟨b, 0, none⟩))) :
    Seq Try.prog 85 #[.pointer (some ⟨bs, 0, none⟩)] encR (fun k => k = b ∨ k = bs) (runsL L) w := by
  intro n l J Jx M X W hR hM hX hJ hJx hY h0
  have hl := h.len
  have hsp : Spc W b L := h.kept (hR.keep b h.lt (.inl rfl))
  have hcb := hR.cell (.inr rfl) c1
  obtain ⟨N, hN⟩ : ∃ N, N = L.length := ⟨_, rfl⟩
  have HB : Hid (∀ M' w', Stp M W M' w' → Spc w' b L ∧ w'.cell? ⟨b, 0, none⟩ = some (.int .i64 (N : Int)) ∧ w'.cell? ⟨bs, 0, none⟩ = some (.pointer (some ⟨b, 0, none⟩))) := (by
    intro M' w' hst
    have hs : Spc w' b L := hsp.kept (hst.kep.keep b hsp.lt (fun h => (hM b h).1 (.inl rfl)))
    exact ⟨hs, by rw [hN]; exact hs.size, hst.kep.cell (fun h => (hM bs h).1 (.inr rfl)) hcb⟩)
  have HN : Hid (N = L.length) := hN
  have hN4 : N ≤ 4096 := by omega
  have hst0 : Stp M W M W := Stp.refl fun k hk => (hM k hk).2
  have HI : Hid (J [] M W ∧ Stp M W M W) := ⟨h0, hst0⟩
  clear hst0 h0 hN hcb hsp hl c1 h hR hM hX hJ hJx
  refine callsIn_of_wp Try.func85 rfl trivial ?_ rfl
  simp only [Try.ntmps85, List.size_toArray, List.length_cons, List.length_nil, Nat.reduceAdd, Nat.reduceSub, Array.replicate_succ, Array.replicate_zero, List.push_toArray, List.append_toArray, List.nil_append, List.cons_append]
  gi_wp2
  refine wpIn_wide.2 (wp_scope_straight ((wpIn_wide (n := n)).1 ?_))
  gi_wp2
  apply wpIn_label
  gi_wp2
  gi_loopw [3] (fun v wr => ∃ (st : Nat) (pre : List (Nat × Nat)) (M' : Nat → Prop), v = .int .i64 st ∧ st ≤ N ∧ pre ++ rn st 0 (L.drop st) = runsL L ∧ J pre M' wr ∧ Stp M W M' wr) (fun v _ => N - (intOf v).toNat)
  case atStart => exact ⟨0, [], M, rfl, Nat.zero_le _, rfl, HI.out.1, HI.out.2⟩
  case round =>
    obtain ⟨st, pre, M', rfl, hst, hpre, hj, hsp⟩ := hrel
    clear HI
    obtain ⟨wo, rfl⟩ : ∃ wo, wo = wr := ⟨_, rfl⟩
    obtain ⟨hspc, c0, cb⟩ := HB.out M' wo hsp
    by_cases hlt : st < N
    · have hltI : (st : Int) < (N : Int) := by omega
      have HP : Hid (pre ++ rn st 0 (L.drop st) = runsL L ∧ J pre M' wo ∧ Stp M W M' wo) := ⟨hpre, hj, hsp⟩
      have HSP : Hid (Spc wo b L) := hspc
      clear hpre hj hsp hspc
      gi_wp2
      gi_loopw [3, 4] (fun v x wr => wr = wo ∧ v = .int .i64 st ∧ ∃ u : Nat, x = .int .i64 u ∧ st ≤ u ∧ u ≤ N ∧ pre ++ rn u (u - st) (L.drop u) = runsL L) (fun _ x _ => N - (intOf x).toNat)
      case atStart => exact ⟨rfl, rfl, st, rfl, Nat.le_refl _, hst, by rw [Nat.sub_self]; exact HP.out.1⟩
      case round =>
        obtain ⟨rfl, rfl, u, rfl, hu1, hu2, hpu⟩ := hrel
        by_cases hlu : u < N
        · have hluI : (u : Int) < (N : Int) := by omega
          have huL : u < L.length := by have := HN.out; omega
          have htk := taken_any wr b L u HSP.out huL
          rw [List.drop_eq_getElem_cons huL] at hpu
          cases hv : L[u] with
          | false =>
            rw [hv] at htk hpu
            have HPU : Hid (pre ++ rn (u + 1) (u - st + 1) (L.drop (u + 1)) = runsL L) := hpu
            clear hv hpu huL
            gi_wp2_with (refine ⟨trivial, fun h => (by cases h), ?_⟩; gi_at_call 83; refine CallsIn.mono (callsIn_wide.2 htk) ?_; rintro e w1 ⟨rfl, rfl⟩)
            go_roundw
            case rel => exact ⟨trivial, rfl, u + 1, by go_num, by omega, by omega, by have := HPU.out; rw [show u + 1 - st = u - st + 1 from by omega]; exact this⟩
            case measure => simp [intOf]; omega
          | true =>
            rw [hv] at htk hpu
            have HPU : Hid (pre ++ ((if u - st = 0 then [] else [(u - (u - st), u - st)]) ++ rn (u + 1) 0 (L.drop (u + 1))) = runsL L) := hpu
            clear hv hpu huL
            by_cases hus : u = st
            · subst hus
              have hg : ¬ (u : Int) < (u : Int) := by omega
              gi_wp2_with (refine ⟨trivial, fun h => (by cases h), ?_⟩; gi_at_call 83; refine CallsIn.mono (callsIn_wide.2 htk) ?_; rintro e w1 ⟨rfl, rfl⟩)
              refine ⟨fun f h => (by cases h), ?_⟩
              gi_wp2
              refine ⟨⟨u + 1, pre, M', by go_num, by omega, ?_, HP.out.2.1, HP.out.2.2⟩, by simp [intOf]; omega⟩
              have := HPU.out
              rw [Nat.sub_self, if_pos rfl, List.nil_append] at this
              exact this
            · obtain ⟨c, hc⟩ : ∃ c, c = u - st := ⟨_, rfl⟩
              have hcI : (u : Int) - (st : Int) = (c : Int) := by omega
              have hg : (st : Int) < (u : Int) := by omega
              have hpu := HPU.out
              rw [← hc, if_neg (by omega), show u - c = st from by omega, ← List.append_assoc] at hpu
              obtain ⟨fn, tmps, assign, body, hy, hr⟩ := hY (n - 1) pre (st, c) M' wr HP.out.2.1 (by rw [← hpu]; exact List.prefix_append _ _)
              dsimp only [encR] at hy
              have HPV : Hid ((pre ++ [(st, c)]) ++ rn (u + 1) 0 (L.drop (u + 1)) = runsL L) := hpu
              clear hpu HPU hc hus
              gi_wp2_with (refine ⟨trivial, fun h => (by cases h), ?_⟩; gi_at_call 83; refine CallsIn.mono (callsIn_wide.2 htk) ?_; rintro e w1 ⟨rfl, rfl⟩)
              refine ⟨fun h => (by cases h), ?_⟩
              refine hr.mono ?_
              rintro e W3 ⟨M3, (⟨hs3, rfl, hj3⟩ | ⟨hs3, rfl, hj3⟩)⟩
              · gi_wp2
                exact ⟨⟨u + 1, pre ++ [(st, c)], M3, by go_num, by omega, HPV.out, hj3, HP.out.2.2.trans hs3⟩, by simp [intOf]; omega⟩
              · gi_wp2
                try rw [Exit.noGoto_ret]
                refine bodyPost_ret (results_none rfl _ _ _) rfl ?_
                exact ⟨⟨_, rfl⟩, M3, .inr ⟨_, by rw [← HPV.out]; exact List.prefix_append _ _, hj3⟩⟩
        · obtain rfl : u = N := by omega
          have hluI : ¬ (u : Int) < (u : Int) := by omega
          obtain ⟨c, hc⟩ : ∃ c, c = u - st := ⟨_, rfl⟩
          have hcI : (u : Int) - (st : Int) = (c : Int) := by omega
          have hL0 : L.drop u = [] := by rw [HN.out]; exact List.drop_length
          rw [hL0, ← hc] at hpu
          rw [show rn u c [] = [(st, c)] from by rw [rn, if_neg (by omega), show u - c = st from by omega]] at hpu
          obtain ⟨fn, tmps, assign, body, hy, hr⟩ := hY (n - 1) pre (st, c) M' wr HP.out.2.1 (by rw [← hpu]; exact List.prefix_refl _)
          dsimp only [encR] at hy
          have HPV : Hid (pre ++ [(st, c)] = runsL L) := hpu
          clear hpu hc hL0 hlu
          gi_wp2
          refine ⟨fun h => (by cases h), ?_⟩
          refine hr.mono ?_
          rintro e W3 ⟨M3, (⟨hs3, rfl, hj3⟩ | ⟨hs3, rfl, hj3⟩)⟩
          · gi_wp2
            try rw [Exit.noGoto_ret]
            refine bodyPost_ret (results_none rfl _ _ _) rfl ?_
            exact ⟨⟨_, rfl⟩, M3, .inl (by rw [← HPV.out]; exact hj3)⟩
          · gi_wp2
            try rw [Exit.noGoto_ret]
            refine bodyPost_ret (results_none rfl _ _ _) rfl ?_
            exact ⟨⟨_, rfl⟩, M3, .inr ⟨_, by rw [← HPV.out]; exact List.prefix_refl _, hj3⟩⟩
    · obtain rfl : st = N := by omega
      have hltI : ¬ (st : Int) < (st : Int) := by omega
      gi_wp2
      go_end0
      rw [HN.out, List.drop_length] at hpre
      rw [show rn L.length 0 [] = [] from rfl, List.append_nil] at hpre
      exact ⟨⟨_, rfl⟩, M', .inl (by rw [← hpre]; exact hj)⟩
end Go.Proofs.Ytpmjkgpmidejoaa.Al
