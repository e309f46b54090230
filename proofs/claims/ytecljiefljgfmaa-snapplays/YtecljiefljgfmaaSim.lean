/-
  The code's device and the document's do alike.
-/
import Derived.Test.YtecljiefljgfmaaRefWrite
import Derived.Test.YtecljiefljgfmaaRefFlush
namespace Go.Proofs.Ytecljiefljgfmaa
open Go.RowKit

structure Sim (M : D) (N : R) : Prop where
  s : M.S = app M.L M.C
  l : N.L = M.L
  c : N.W = M.C
  d : N.dead = decide (M.st = 2)
  f : M.st ≠ 2 → N.f = if M.st = 0 then -1 else M.k

theorem sim_burn {M : D} {N : R} (h : Sim M N) (hok : M.Ok) (hs : M.st ≠ 2) : M.burn.1 = N.burn.1 ∧ Sim M.burn.2 N.burn.2 := by
  have hst := hok.st
  have hk := hok.k0
  have hf := h.f hs
  rcases (by omega : M.st = 0 ∨ M.st = 1) with h0 | h1
  · rw [if_pos h0] at hf
    have e1 : M.burn = (0, M) := by rw [D.burn, if_pos h0]
    have e2 : N.burn = (0, N) := by rw [R.burn, if_neg (by omega), if_neg (by omega)]
    rw [e1, e2]
    exact ⟨rfl, h⟩
  · rw [if_neg (by omega)] at hf
    by_cases hp : 0 < M.k
    · have e1 : M.burn = (0, { M with k := M.k - 1 }) := by rw [D.burn, if_neg (by omega), if_pos ⟨h1, hp⟩]
      have e2 : N.burn = (0, { N with f := N.f - 1 }) := by rw [R.burn, if_neg (by omega), if_pos (by omega)]
      rw [e1, e2]
      exact ⟨rfl, h.s, h.l, h.c, h.d, fun _ => by show N.f - 1 = if M.st = 0 then -1 else M.k - 1; rw [if_neg (by omega)]; omega⟩
    · have e1 : M.burn = (50, { M with st := 2 }) := by rw [D.burn, if_neg (by omega), if_neg (fun h => hp h.2)]
      have e2 : N.burn = (50, { N with dead := true }) := by rw [R.burn, if_pos (by omega)]
      rw [e1, e2]
      exact ⟨rfl, h.s, h.l, h.c, rfl, fun hn => absurd rfl hn⟩

theorem sim_dead {M : D} {N : R} (h : Sim M N) : (N.dead = true ↔ M.st = 2) := by rw [h.d]; simp

theorem sim_wr {M : D} {N : R} (h : Sim M N) (hok : M.Ok) (i : Int) (b : ByteArray) : (M.wr i b).1 = (N.wr i b).1 ∧ Sim (M.wr i b).2 (N.wr i b).2 := by
  by_cases hs : M.st = 2
  · have e1 : M.wr i b = M.burn := wr_burnt (.inl hs) (by rw [burn_st2 hs]; decide)
    have e2 : N.wr i b = (50, N) := by rw [R.wr, if_pos ((sim_dead h).2 hs)]
    have e3 : M.burn = (50, M) := by
      rw [D.burn, if_neg (by omega), if_neg (by omega), ← hs]
    rw [e1, e2, e3]
    exact ⟨rfl, h⟩
  · have hd : ¬ N.dead = true := fun e => hs ((sim_dead h).1 e)
    have hlen : N.L.length = M.S.length := by rw [h.l, h.s, app_length]
    by_cases hi : 0 ≤ i ∧ i < (M.S.length : Int) ∧ b.size = 256
    · obtain ⟨b1, b2⟩ := sim_burn h hok hs
      obtain ⟨e1, e2, e3⟩ := M.burn_L
      obtain ⟨f1, f2⟩ := N.burn_L
      have g2 : N.wr i b = if N.burn.1 ≠ 0 then N.burn else (0, { N.burn.2 with W := N.W ++ [(i.toNat, b)] }) := by
        rw [R.wr, if_neg hd, if_neg (fun hn => hn (by rw [hlen]; exact hi))]
      rw [g2]
      by_cases hb : M.burn.1 = 0
      · rw [wr_done (.inr hi) hb, if_neg (by omega)]
        refine ⟨rfl, ?_, b2.l, ?_, b2.d, b2.f⟩
        · show M.S.set i.toNat b = app M.burn.2.L (M.C ++ [(i.toNat, b)])
          rw [app_snoc, e1, h.s]
        · show N.W ++ _ = M.C ++ _
          rw [h.c]
      · rw [wr_burnt (.inr hi) hb, if_pos (by omega)]
        exact ⟨b1, b2⟩
    · rw [wr_arg hs hi, R.wr, if_neg hd, if_pos (fun hn => hi (by rw [hlen] at hn; exact hn))]
      exact ⟨rfl, h⟩

theorem sim_flush {M : D} {N : R} (h : Sim M N) (hok : M.Ok) : M.flush.1 = N.flush.1 ∧ Sim M.flush.2 N.flush.2 := by
  by_cases hs : M.st = 2
  · have e3 : M.burn = (50, M) := by rw [D.burn, if_neg (by omega), if_neg (by omega), ← hs]
    have e1 : M.flush = (50, M) := by rw [D.flush, e3, if_pos (by show (50 : Int) ≠ 0; decide)]
    have e2 : N.flush = (50, N) := by rw [R.flush, if_pos ((sim_dead h).2 hs)]
    rw [e1, e2]
    exact ⟨rfl, h⟩
  · have hd : ¬ N.dead = true := fun e => hs ((sim_dead h).1 e)
    obtain ⟨b1, b2⟩ := sim_burn h hok hs
    obtain ⟨e1, e2, e3⟩ := M.burn_L
    rw [D.flush, R.flush, if_neg hd]
    by_cases hb : M.burn.1 = 0
    · rw [if_neg (by omega), if_neg (by omega)]
      refine ⟨rfl, ?_, ?_, rfl, b2.d, b2.f⟩
      · show M.burn.2.S = app (app M.L M.C) []
        rw [e2, h.s]
        rfl
      · show app N.L N.W = app M.L M.C
        rw [h.l, h.c]
    · rw [if_pos (by omega), if_pos (by omega)]
      exact ⟨b1, b2⟩

theorem sim_crash {M : D} {N : R} (h : Sim M N) (keep : List Bool) : Sim (M.crash keep) (N.crash keep) := by
  refine ⟨rfl, ?_, rfl, rfl, fun _ => rfl⟩
  show app N.L (kept keep N.W) = app M.L (kept keep M.C)
  rw [h.l, h.c]

theorem sim_fuse {M : D} {N : R} (h : Sim M N) (k : Int) : Sim (M.fuse k) (N.fuse k) := by
  by_cases hs : M.st = 2
  · have e : M.fuse k = M := by rw [D.fuse, if_pos hs]
    rw [e]
    exact ⟨h.s, h.l, h.c, h.d, fun hn => absurd hs hn⟩
  · have hd : N.dead = false := by rw [h.d]; exact decide_eq_false hs
    by_cases hk : k < 0
    · have e : M.fuse k = { M with st := 0, k := 0 } := by rw [D.fuse, if_neg hs, if_pos hk]
      rw [e]
      exact ⟨h.s, h.l, h.c, hd, fun _ => by show max k (-1) = if 0 = 0 then -1 else _; rw [if_pos rfl]; omega⟩
    · have e : M.fuse k = { M with st := 1, k := k } := by rw [D.fuse, if_neg hs, if_neg hk]
      rw [e]
      exact ⟨h.s, h.l, h.c, hd, fun _ => by show max k (-1) = if 1 = 0 then -1 else k; rw [if_neg (by omega)]; omega⟩

theorem sim_new (n : Nat) (b : ByteArray) : Sim (D.new n b) (R.new n b) := ⟨rfl, rfl, rfl, rfl, fun _ => rfl⟩

/-- What Read tells, in the code's words. -/
theorem sim_rd_dead {M : D} {N : R} (h : Sim M N) (hs : M.st = 2) (i : Int) : N.rd i = (⟨#[]⟩, 50) := by rw [R.rd, if_pos ((sim_dead h).2 hs)]
theorem sim_rd_arg {M : D} {N : R} (h : Sim M N) (hs : M.st ≠ 2) {i : Int} (hi : ¬ (0 ≤ i ∧ i < (M.L.length : Int))) : N.rd i = (⟨#[]⟩, 1) := by
  rw [R.rd, if_neg (fun e => hs ((sim_dead h).1 e)), if_neg (by rw [h.l]; exact hi)]
theorem sim_rd_ok {M : D} {N : R} (h : Sim M N) (hs : M.st ≠ 2) {i : Nat} (hi : i < M.S.length) : N.rd (i : Int) = (M.S[i], 0) := by
  have hl : M.S.length = M.L.length := by rw [h.s, app_length]
  rw [R.rd, if_neg (fun e => hs ((sim_dead h).1 e)), if_pos (by rw [h.l]; omega), h.l, h.c, ← h.s, List.getD_eq_getElem?_getD, show ((i : Int)).toNat = i from by omega, List.getElem?_eq_getElem hi]
  rfl
end Go.Proofs.Ytecljiefljgfmaa
