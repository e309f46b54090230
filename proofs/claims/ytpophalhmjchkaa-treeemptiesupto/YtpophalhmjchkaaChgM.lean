/-
  What a change does in an inner node, step by step.
-/
import Derived.Test.YtpophalhmjchkaaTop
namespace Go.Proofs.Ytpophalhmjchkaa
open Go.RowKit

structure Mid (h : Nat) (lo hi : Option ByteArray) (cs : List T) (i : Nat) (R n1 : List ByteArray × List T) : Prop where
  rlen : R.2.length = R.1.length + 1
  rmax : R.2.length ≤ 2
  row : Row (Val h) lo n1.1 n1.2 hi
  at' : i < n1.2.length
  min : 2 ≤ n1.2.length
  max : n1.2.length ≤ 9
  szs : ∀ c ∈ n1.2, c.sz ≤ 8
  mlen : (mendR n1 i).2.length = (mendR n1 i).1.length + 1
  mmax : (mendR n1 i).2.length ≤ 9

theorem chg_mid {k : ByteArray} {E : List KV → List KV} (hE : Edit k E) {h : Nat} {lo hi : Option ByteArray} {bs : List ByteArray} {cs : List T} (hv : Val (h + 1) lo hi (.inner bs cs)) (hk : InB lo hi k) (h8 : cs.length ≤ 8) (h2' : 2 ≤ cs.length) :
    ∃ (hil : pl bs k < cs.length) (m1 m2 : Option ByteArray), Val h m1 m2 cs[pl bs k] ∧ InB m1 m2 k ∧ 4 ≤ (cs[pl bs k]).sz ∧ (cs[pl bs k]).sz ≤ 8 ∧ Mid h lo hi cs (pl bs k) (chgT k E h cs[pl bs k]) (withR (bs, cs) (pl bs k) (pl bs k + 1) (chgT k E h cs[pl bs k])) ∧
      chgT k E (h + 1) (.inner bs cs) = cutT (.inner (mendR (withR (bs, cs) (pl bs k) (pl bs k + 1) (chgT k E h cs[pl bs k])) (pl bs k)).1 (mendR (withR (bs, cs) (pl bs k) (pl bs k + 1) (chgT k E h cs[pl bs k])) (pl bs k)).2) := by
  obtain ⟨c, m1, m2, p1, p2, p3, p4, p5⟩ := hv.1.place k hk
  obtain ⟨i, hi'⟩ : ∃ i, i = pl bs k := ⟨_, rfl⟩
  rw [← hi'] at p1 p2 p5 ⊢
  obtain ⟨hil, p1'⟩ := List.getElem?_eq_some_iff.1 p1
  have hcm := hv.2 c (List.mem_of_getElem? p1)
  have ihc := chg_val hE p3 p4 hcm.2 (.inr (by omega))
  have hgd : cs.getD i default = c := by rw [getD_of hil, p1']
  obtain ⟨R, hR⟩ : ∃ R, R = chgT k E h c := ⟨_, rfl⟩
  rw [← hR] at ihc
  have hchg : chgT k E (h + 1) (.inner bs cs) = cutT (.inner (mendR (withR (bs, cs) i (i + 1) R) i).1 (mendR (withR (bs, cs) i (i + 1) R) i).2) := by rw [chgT, ← hi', hgd, ← hR]
  obtain ⟨n1, hn1⟩ : ∃ n1, n1 = withR (bs, cs) i (i + 1) R := ⟨_, rfl⟩
  rw [← hn1] at hchg
  have e1 : n1.1 = bs.take i ++ R.1 ++ bs.drop i := by rw [hn1]; rfl
  have e2 : n1.2 = cs.take i ++ R.2 ++ cs.drop (i + 1) := by rw [hn1]; rfl
  have hrow1 : Row (Val h) lo n1.1 n1.2 hi := by rw [e1, e2, List.append_assoc, List.append_assoc]; exact p2.app (ihc.row.app p5)
  have hti : (cs.take i).length = i := by rw [List.length_take]; omega
  have hsz : ∀ j (hj : j < n1.2.length), j ≠ i → 4 ≤ (n1.2[j]).sz ∧ (n1.2[j]).sz ≤ 8 := by
    intro j hj hji
    have hmem : n1.2[j] ∈ cs ∨ n1.2[j] ∈ R.2.drop 1 := by
      simp only [e2]
      rw [List.getElem_append]
      split
      · rw [List.getElem_append]
        split
        · left; exact List.mem_of_mem_take (List.getElem_mem _)
        · right
          rename_i h5 h6
          rw [List.mem_drop_iff_getElem]
          refine ⟨j - (cs.take i).length - 1, by rw [List.length_append] at h5; omega, ?_⟩
          congr 1
          omega
      · left; exact List.mem_of_mem_drop (List.getElem_mem _)
    rcases hmem with hmem | hmem
    · exact hv.2 _ hmem
    · rcases ihc.shape with ⟨x, e, _⟩ | ⟨b, x, y, e, hx, hy⟩
      · rw [e] at hmem; simp at hmem
      · rw [e] at hmem
        simp only [List.drop_succ_cons, List.drop_zero, List.mem_singleton] at hmem
        rw [hmem]; exact hy
  have hRl : 1 ≤ R.2.length ∧ R.2.length ≤ 2 := by
    rcases ihc.shape with ⟨x, e, _⟩ | ⟨b, x, y, e, _⟩ <;> rw [e] <;> simp
  have hnl : n1.2.length + 1 = cs.length + R.2.length := by
    rw [e2, List.length_append, List.length_append, List.length_take, List.length_drop]; omega
  have hin : i < n1.2.length := by omega
  have hci : 3 ≤ (n1.2[i]).sz ∧ (n1.2[i]).sz ≤ 8 := by
    have he : n1.2[i]? = R.2[0]? := by
      rw [e2, List.append_assoc, List.getElem?_append_right (by omega), hti, Nat.sub_self, List.getElem?_append_left (by omega)]
    rw [List.getElem?_eq_getElem hin] at he
    rcases ihc.shape with ⟨x, e, h5, h6, _⟩ | ⟨b, x, y, e, hx, hy⟩
    · rw [e] at he
      simp only [List.getElem?_cons_zero, Option.some.injEq] at he
      rw [he]; omega
    · rw [e] at he
      simp only [List.getElem?_cons_zero, Option.some.injEq] at he
      rw [he]; omega
  have hn2 : 2 ≤ n1.2.length := by omega
  have mv := mend_val hrow1 hin hn2 hsz hci
  have hall : ∀ x ∈ n1.2, x.sz ≤ 8 := by
    intro x hx
    obtain ⟨j, hj, rfl⟩ := List.getElem_of_mem hx
    by_cases hji : j = i
    · subst hji; exact hci.2
    · exact (hsz j hj hji).2
  refine ⟨hil, m1, m2, by rw [p1']; exact p3, p4, by rw [p1']; exact hcm.1, by rw [p1']; exact hcm.2, ?_, ?_⟩
  · rw [p1', ← hR, ← hn1]
    exact ⟨ihc.row.len, hRl.2, hrow1, hin, hn2, by omega, hall, mv.1.len, by have := mv.2.2.2.2; omega⟩
  · rw [p1', ← hR, ← hn1]
    exact hchg
end Go.Proofs.Ytpophalhmjchkaa
