/-
  http.Parse of any bytes.
-/
import Derived.Test.YtmodmeabjhaklaaGreatDoorChn
namespace Go.Proofs.YtmodmeabjhaklaaGreatDoor
open Go.RowKit

theorem inw_step {l : List UInt8} {q q' : Nat} {s s' : St} (h : stepF l q s = .go q' s') (hw : Inw l q s) : Inw l q' s' ∧ q' ≤ 6 := by
  have hf := hw.fl
  unfold stepF at h
  split at h
  · split at h
    · cases h
    · cases h
    · split at h
      · cases h
      · simp only [Nx.go.injEq] at h
        obtain ⟨rfl, rfl⟩ := h
        exact ⟨⟨hf, fun _ => by simp only; omega, fun _ => hw.q3 (by omega), fun h => by omega⟩, by omega⟩
  · have ha := hw.at2 (by omega)
    split at h
    · cases h
    · next s1 hx =>
      have hk := fld_keep hx
      have hg := fld_go hx
      simp only [Nx.go.injEq] at h
      obtain ⟨rfl, rfl⟩ := h
      exact ⟨⟨by rw [hk.1, hk.2.1]; exact hf, fun _ => by omega, fun _ => by rw [hk.1]; exact hw.q3 (by omega), fun h => by omega⟩, by omega⟩
    · next s1 x hx =>
      have hk := fld_keep hx
      have hg := fld_go hx
      simp only [Nx.go.injEq] at h
      obtain ⟨rfl, rfl⟩ := h
      exact ⟨⟨by show s1.pcs.flatten.length = s1.sum; rw [hk.1, hk.2.1]; exact hf, fun _ => by show 2 ≤ s1.at_; omega, fun _ => by show s1.pcs = []; rw [hk.1]; exact hw.q3 (by omega), fun h => by omega⟩, by omega⟩
  · have ha := hw.at2 (by omega)
    split at h
    · cases h
    · split at h
      · simp only [Nx.go.injEq] at h
        obtain ⟨rfl, rfl⟩ := h
        exact ⟨⟨hf, fun _ => ha, fun h => by omega, fun h => by omega⟩, by omega⟩
      · simp only [Nx.go.injEq] at h
        obtain ⟨rfl, rfl⟩ := h
        exact ⟨⟨hf, fun _ => ha, fun _ => hw.q3 (by omega), fun h => by omega⟩, by omega⟩
  · split at h <;> cases h
  · have ha := hw.at2 (by omega)
    split at h
    · cases h
    · cases h
    · split at h
      · cases h
      · split at h
        · cases h
        · split at h
          · simp only [Nx.go.injEq] at h
            obtain ⟨rfl, rfl⟩ := h
            exact ⟨⟨hf, fun _ => by simp only; omega, fun h => by omega, fun h => by omega⟩, by omega⟩
          · next h0 =>
            simp only [Nx.go.injEq] at h
            obtain ⟨rfl, rfl⟩ := h
            exact ⟨⟨hf, fun _ => by simp only; omega, fun h => by omega, fun _ => by simp only; omega⟩, by omega⟩
  · have ha := hw.at2 (by omega)
    split at h
    · cases h
    · next hlt =>
      simp only at h
      split at h
      · cases h
      · split at h
        · cases h
        · simp only [Nx.go.injEq] at h
          obtain ⟨rfl, rfl⟩ := h
          exact ⟨⟨take_fl hlt hf, fun _ => by simp only; omega, fun h => by omega, fun h => by omega⟩, by omega⟩
  · have ha := hw.at2 (by omega)
    split at h
    · cases h
    · cases h
    · next s1 x hx =>
      have hk := fld_keep hx
      have hg := fld_go hx
      simp only [Nx.go.injEq] at h
      obtain ⟨rfl, rfl⟩ := h
      exact ⟨⟨by rw [hk.1, hk.2.1]; exact hf, fun _ => by omega, fun h => by omega, fun h => by omega⟩, by omega⟩
  · cases h

/-- What the loop holds. -/
def Lp (w0 W : World) (p : Nat) (l : List UInt8) (a : Option Addr) (cap : Nat) (v : Value) (wr : World) : Prop :=
  Below p W wr ∧ ((v = .int .i64 7 ∧ FinR w0 wr p (parseL l)) ∨ ∃ (q : Nat) (s : St) (n : Nat) (T : Tl) (hv pv : Value) (xs : List Sl), v = .int .i64 (q : Int) ∧ q ≤ 6 ∧ Rd w0 wr p l s a cap T hv pv xs ∧ Inw l q s ∧ mu l q s ≤ n ∧ runF l n q s = parseL l)
def atOf (wr : World) (p : Nat) : Nat := (intOf ((wr.cell? ⟨p, 1, none⟩).getD undef)).toNat
def rank (q : Int) : Nat := if q = 0 then 5 else if q = 1 then 4 else if q = 2 then 3 else if q = 4 then 2 else 1
def meas (l : List UInt8) (p : Nat) (v : Value) (wr : World) : Nat := if intOf v = 7 then 0 else 2 * (l.length - atOf wr p) + rank (intOf v)
theorem meas_eq {w0 wr : World} {p : Nat} {l : List UInt8} {q : Nat} {s : St} {a : Option Addr} {cap : Nat} {T : Tl} {hv pv : Value} {xs : List Sl} (h : Rd w0 wr p l s a cap T hv pv xs) (hq : q ≤ 6) : meas l p (.int .i64 (q : Int)) wr = mu l q s := by
  have hc : wr.cell? ⟨p, 1, none⟩ = some (.int .i64 (s.at_ : Int)) := h.rb.cell 1 rfl
  have ha : atOf wr p = s.at_ := by unfold atOf; rw [hc]; simp [intOf]
  unfold meas mu
  rw [ha]
  have : q = 0 ∨ q = 1 ∨ q = 2 ∨ q = 3 ∨ q = 4 ∨ q = 5 ∨ q = 6 := by omega
  rcases this with rfl | rfl | rfl | rfl | rfl | rfl | rfl <;> simp [intOf, rank]
/-- What a step makes of the loop's state. -/
theorem lp_step {w0 W wr w' : World} {p : Nat} {l : List UInt8} {q n : Nat} {s : St} {a : Option Addr} {cap : Nat} {T : Tl} {hv pv : Value} {xs : List Sl} {e : Ending} (hb : Below p W wr) (h : Rd w0 wr p l s a cap T hv pv xs) (hq : q ≤ 6) (hw : Inw l q s) (hn : mu l q s ≤ n) (hr : runF l n q s = parseL l) (hx : NxR w0 wr w' p l a cap e (stepF l q s)) :
    ∃ v', e = .returned v' ∧ Lp w0 W p l a cap v' w' ∧ meas l p v' w' < meas l p (.int .i64 (q : Int)) wr := by
  rw [meas_eq h hq]
  have hpos : 0 < mu l q s := by
    unfold mu
    have : q = 0 ∨ q = 1 ∨ q = 2 ∨ q = 3 ∨ q = 4 ∨ q = 5 ∨ q = 6 := by omega
    rcases this with rfl | rfl | rfl | rfl | rfl | rfl | rfl <;> simp <;> omega
  obtain ⟨n', rfl⟩ : ∃ n', n = n' + 1 := ⟨n - 1, by omega⟩
  cases hs : stepF l q s with
  | fin t =>
    rw [hs] at hx
    obtain ⟨rfl, h1, h2⟩ := hx
    have ht : t = parseL l := by rw [← hr, runF, hs]
    refine ⟨_, rfl, ⟨hb.trans h2, .inl ⟨rfl, ht ▸ h1⟩⟩, ?_⟩
    simp [meas, intOf]
    omega
  | go q' s' =>
    rw [hs] at hx
    obtain ⟨rfl, ⟨T', hv', pv', xs', h1⟩, h2⟩ := hx
    obtain ⟨hw', hq'⟩ := inw_step hs hw
    have hmu := mu_step hs (fun h5 => hw.q5 h5)
    have hr' : runF l n' q' s' = parseL l := by rw [← hr, runF, hs]
    refine ⟨_, rfl, ⟨hb.trans h2, .inr ⟨q', s', n', T', hv', pv', xs', rfl, hq', h1, hw', by omega, hr'⟩⟩, ?_⟩
    rw [meas_eq h1 hq']
    exact hmu
end Go.Proofs.YtmodmeabjhaklaaGreatDoor
