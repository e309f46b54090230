/-
  slices.Chunk of bytes, 252 each, as an iterator.
-/
import Derived.Test.YtpmjkgpmidejoaaBlobS
import Derived.Test.YtpmjkgpmidejoaaAlMeth
namespace Go.Proofs.Ytpmjkgpmidejoaa
open Go.RowKit Go.Shelf
open Al (Seq Stp Kep Stab)

attribute [local go_sem] Oper.semAt_some

/-- How few units hold n bytes. -/
def nsec (n : Nat) : Nat := (n + 251) / 252
/-- The j-th piece of a slice of bytes. -/
def pcv (b off n : Nat) (j : Nat) : Value := .slice (some ⟨b, off + 252 * j, none⟩) (min 252 (n - 252 * j)) (min 252 (n - 252 * j))

theorem range_pre {m K : Nat} (h : m ≤ K) : List.range m <+: List.range K := by
  rw [show List.range m = (List.range K).take m from by rw [List.take_range, Nat.min_eq_left h]]
  exact List.take_prefix _ _
theorem chunk_any (b off n cap : Nat) (w : World) :
    Calls Try.prog 73 #[.slice (some ⟨b, off, none⟩) n cap, .int .i64 252] w fun e w' => e = .returned (.func (.func 86) #[] #[.pointer (some ⟨w.heap.size, 0, none⟩), .pointer (some ⟨w.heap.size + 1, 0, none⟩)]) ∧ w' = (w.alloc (.cells #[.slice (some ⟨b, off, none⟩) n cap] 38)).alloc (.cells #[.int .i64 252] 3) := by
  go_enter Try.func73, Try.ntmps73
  go_wp2
  go_ret
  exact ⟨rfl, by simp⟩

theorem slice_mid (b off n c i j r : Nat) (h1 : i + r = j) (hr : 0 < r) (h2 : j ≤ c) (wx : World) : (Instr.slice 38 (.slice (some ⟨b, off, none⟩) n c) (some (.int .i64 (i : Int))) (some (.int .i64 (j : Int))) (some (.int .i64 (j : Int)))).run Try.prog wx = .ok (.slice (some ⟨b, off + i, none⟩) r r) wx := by
  obtain ⟨i0, hi, hz0, hz1, hz2⟩ := info_parts info5
  have e1 : j - i = r := by omega
  simp [Instr.slice, run_underlying Try.underlying38, Instr.sliceBounds, run_sliceBound, sizeOf, typeInfo, hi, hz1, (by omega : (j : Int) ≤ (c : Int)), (by omega : (i : Int) ≤ (j : Int)), e1, Addr.add]
  rw [if_neg (by omega)]
  split
  · rename_i h; subst h; rfl
  · rfl

set_option maxRecDepth 100000 in
set_option maxHeartbeats 4000000 in
theorem chunk_seq (b off n cap bs : Nat) (w : World) (hn : n ≤ 2000000) (hcap : n ≤ cap) (c1 : w.cell? ⟨bs, 0, none⟩ = some (.slice (some ⟨b, off, none⟩) n cap)) (c2 : w.cell? ⟨bs + 1, 0, none⟩ = some (.int .i64 252)) :
    Seq Try.prog 86 #[.pointer (some ⟨bs, 0, none⟩), .pointer (some ⟨bs + 1, 0, none⟩)] (fun j : Nat => #[pcv b off n j]) (fun k => k = bs ∨ k = bs + 1) (List.range (nsec n)) w := by
  intro m0 l J Jx M X W hR hM hX hJ hJx hY h0
  have hcb1 := hR.cell (.inl rfl) c1
  have hcb2 := hR.cell (.inr rfl) c2
  have HB : Hid (∀ M' w', Stp M W M' w' → w'.cell? ⟨bs, 0, none⟩ = some (.slice (some ⟨b, off, none⟩) n cap) ∧ w'.cell? ⟨bs + 1, 0, none⟩ = some (.int .i64 252)) := (by
    intro M' w' hst
    exact ⟨hst.kep.cell (fun h => (hM bs h).1 (.inl rfl)) hcb1, hst.kep.cell (fun h => (hM (bs + 1) h).1 (.inr rfl)) hcb2⟩)
  have hst0 : Stp M W M W := Stp.refl fun k hk => (hM k hk).2
  have HI : Hid (J [] M W ∧ Stp M W M W) := ⟨h0, hst0⟩
  have HJ : Hid (∀ pre M' W', J pre M' W' → Stp M W M' W' → J pre M' W'.drew ∧ Stp M W M' W'.drew) := (fun pre M' W' h2 h3 => ⟨hJ _ _ _ _ h2 (Kep.drew _ _), h3.trans ⟨Kep.drew _ _, fun _ _ h => h, h3.lt⟩⟩)
  obtain ⟨K, hK⟩ : ∃ K, K = nsec n := ⟨_, rfl⟩
  have hK1 : 252 * K < n + 252 := by rw [hK]; unfold nsec; omega
  have hK2 : n ≤ 252 * K := by rw [hK]; unfold nsec; omega
  rw [← hK] at hY ⊢
  clear hst0 h0 hcb1 hcb2 c1 c2 hR hM hX hJ hJx hK
  refine callsIn_of_wp Try.func86 rfl trivial ?_ rfl
  simp only [Try.ntmps86, List.size_toArray, List.length_cons, List.length_nil, Nat.reduceAdd, Nat.reduceSub, Array.replicate_succ, Array.replicate_zero, List.push_toArray, List.append_toArray, List.nil_append, List.cons_append]
  gi_wp2
  gi_loopw [4] (fun i wr => ∃ (m : Nat) (M' : Nat → Prop), m ≤ K ∧ i = .int .i64 ((252 * m : Nat) : Int) ∧ J (List.range m) M' wr ∧ Stp M W M' wr)
    (fun i _ => 252 * K + 252 - (intOf i).toNat)
  case atStart => exact ⟨0, M, Nat.zero_le _, rfl, HI.out.1, HI.out.2⟩
  case round =>
    obtain ⟨m, M', hm, rfl, hj, hsp⟩ := hrel
    clear HI
    obtain ⟨c1, c2⟩ := HB.out M' wr hsp
    by_cases hlt : m < K
    · obtain ⟨hjd, hspd⟩ := HJ.out _ _ _ hj hsp
      obtain ⟨fn, tmps, assign, body, hy, hr⟩ := hY (m0 - 1) (List.range m) m M' wr.drew hjd (by rw [← List.range_succ]; exact range_pre hlt)
      obtain ⟨i, hi⟩ : ∃ i, i = 252 * m := ⟨_, rfl⟩
      obtain ⟨r, hr0⟩ : ∃ r, r = n - i := ⟨_, rfl⟩
      obtain ⟨q, hq⟩ : ∃ q, q = min 252 r := ⟨_, rfl⟩
      obtain ⟨i2, hi2⟩ : ∃ i2, i2 = i + q := ⟨_, rfl⟩
      rw [pcv, ← hi, ← hr0, ← hq] at hy
      rw [← hi]
      have hiN : (i : Int) < (n : Int) := by omega
      have hs1 : ∀ wx, (Instr.slice 38 (.slice (some ⟨b, off, none⟩) n cap) (some (.int .i64 (i : Int))) none none).run Try.prog wx = .ok (.slice (some ⟨b, off + i, none⟩) r (cap - i)) wx := fun wx => by
        have := slice_lo b off n cap i (by omega) (by omega) wx
        rw [← hr0] at this
        exact this
      have hs2 : ∀ wx, (Instr.slice 38 (.slice (some ⟨b, off, none⟩) n cap) (some (.int .i64 (i : Int))) (some (.int .i64 (i2 : Int))) (some (.int .i64 (i2 : Int)))).run Try.prog wx = .ok (.slice (some ⟨b, off + i, none⟩) q q) wx := fun wx => slice_mid b off n cap i i2 q hi2.symm (by omega) (by omega) wx
      have hmin : min (252 : Int) (r : Int) = (q : Int) := by omega
      have hi2b : (i : Int) + (q : Int) = (i2 : Int) := by omega
      have HH : Hid (i = 252 * m ∧ J (List.range m) M' wr ∧ Stp M W M' wr.drew) := ⟨hi, hj, hspd⟩
      have hi2s : i2 ≤ 2000000 := by omega
      clear hi hr0 hq hi2 hj hsp hjd hspd
      have mixed : Try.prog.follows .mixedOrders = true := by kernel_rfl
      gi_wp2
      gi_region_o
      all_goals gi_wp2
      all_goals
        (refine ⟨fun h => (by cases h), ?_⟩
         refine hr.mono ?_
         rintro e W3 ⟨M3, (⟨hs3, rfl, hj3⟩ | ⟨hs3, rfl, hj3⟩)⟩
         · obtain ⟨c3, c4⟩ := HB.out M3 W3 (HH.out.2.2.trans hs3)
           gi_wp2
           go_roundw
           case rel => exact ⟨m + 1, M3, by omega, by have := HH.out.1; go_num, by rw [List.range_succ]; exact hj3, HH.out.2.2.trans hs3⟩
           case measure => have := HH.out.1; simp [intOf]; omega
         · gi_wp2
           refine bodyPost_ret (results_none rfl _ _ _) rfl ?_
           exact ⟨⟨_, rfl⟩, M3, .inr ⟨_, by rw [← List.range_succ]; exact range_pre (by omega), hj3⟩⟩)
    · obtain rfl : m = K := by omega
      have hiN : ¬ ((252 * m : Nat) : Int) < (n : Int) := by omega
      gi_wp2
      go_end0
      exact ⟨⟨_, rfl⟩, M', .inl hj⟩
end Go.Proofs.Ytpmjkgpmidejoaa
