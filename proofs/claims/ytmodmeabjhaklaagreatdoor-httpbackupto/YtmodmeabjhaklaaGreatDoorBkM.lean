/-
  A request that is printed: what is read of it as itself has used all of its bytes.
-/
import Derived.Test.YtmodmeabjhaklaaGreatDoorRnM
import Derived.Test.YtmodmeabjhaklaaGreatDoorPrA
import Derived.Test.YtmodmeabjhaklaaGreatDoorLawCuts
namespace Go.Proofs.YtmodmeabjhaklaaGreatDoor
open Go.RowKit

/-- What a request line may tell. -/
def ReqOk (m t : List UInt8) : Prop := metB m = true ∧ tarB t = true ∧ (t.getD 0 0 = 47 ∨ t = [42])
def HdOk (h : Hd) : Prop := tokenB h.1 = true ∧ lowL h.1 = h.1 ∧ allB valB h.2 = true ∧ trimL h.2 = h.2
theorem req_ok {x m t : List UInt8} (h : reqL x = .ok m t) : ReqOk m t := by
  unfold reqL at h
  dsimp only at h
  split at h
  · cases h
  · next h1 =>
    split at h
    · cases h
    · split at h
      · cases h
      · next h2 =>
        simp only [Rq.ok.injEq] at h
        obtain ⟨rfl, rfl⟩ := h
        simp only [Bool.not_eq_false, Bool.and_eq_true] at h1
        refine ⟨h1.1.1, h1.1.2, ?_⟩
        by_cases h3 : (Lib.cut (Lib.cut x [32]).2.1 [32]).1.getD 0 0 = 47
        · exact .inl h3
        · right
          by_cases h4 : (Lib.cut (Lib.cut x [32]).2.1 [32]).1 = [42]
          · exact h4
          · exact absurd ⟨h3, h4⟩ h2
theorem low_low (c : UInt8) : low (low c) = low c := by
  by_cases h : 65 ≤ (c.toNat : Int) ∧ (c.toNat : Int) ≤ 90
  · have := low_up h
    exact low_no (by omega)
  · rw [low_no h, low_no h]
theorem lowL_lowL (l : List UInt8) : lowL (lowL l) = lowL l := by
  simp [lowL, low_low]
theorem dw_dw (l : List UInt8) : dw (dw l) = dw l := by
  induction l with
  | nil => rfl
  | cons a r ih =>
    cases hb : blk a
    · rw [dw_no hb, dw_no hb]
    · rw [dw_yes hb, ih]
theorem rdw_rdw (l : List UInt8) : rdw (rdw l) = rdw l := by
  have h := dw_dw l.reverse
  unfold rdw
  unfold dw at h
  rw [List.reverse_reverse, h]
theorem trim_trim (l : List UInt8) : trimL (trimL l) = trimL l := by
  unfold trimL
  rw [rdw_dw, dw_dw, rdw_rdw]
theorem dw_mem {l : List UInt8} {c : UInt8} (h : c ∈ dw l) : c ∈ l := (List.dropWhile_sublist _).mem h
theorem rdw_mem {l : List UInt8} {c : UInt8} (h : c ∈ rdw l) : c ∈ l := by
  unfold rdw at h
  have := (List.dropWhile_sublist blk).mem (List.mem_reverse.1 h)
  exact List.mem_reverse.1 this
theorem hdr_ok {x : List UInt8} {h : Hd} (hx : hdrL x = some h) : HdOk h := by
  unfold hdrL at hx
  split at hx
  · next hc =>
    simp only [Option.some.injEq] at hx
    subst hx
    simp only [Bool.and_eq_true] at hc
    obtain ⟨⟨_, h1⟩, h2⟩ := hc
    refine ⟨?_, lowL_lowL _, ?_, trim_trim _⟩
    · generalize (Lib.cut x [58]).1 = n at h1
      simp only [tokenB, Bool.and_eq_true, decide_eq_true_eq, lowL, List.length_map] at h1 ⊢
      refine ⟨h1.1, ?_⟩
      have h3 := h1.2
      rw [allB, List.all_eq_true] at h3 ⊢
      intro c hc
      obtain ⟨d, hd, rfl⟩ := List.mem_map.1 hc
      exact (show ∀ v : Fin 256, tokB ((UInt8.ofNat v.val).toNat : Int) = true → tokB ((low (UInt8.ofNat v.val)).toNat : Int) = true by decide +kernel) ⟨d.toNat, d.toNat_lt⟩ (by simpa using h3 d hd) |> fun h => by simpa using h
    · generalize (Lib.cut x [58]).2.1 = v at h2
      rw [allB, List.all_eq_true] at h2 ⊢
      intro c hc
      exact h2 c (dw_mem (rdw_mem hc))
  · cases hx
/-- What a reading holds on its way. -/
def Wf (q : Nat) (s : St) : Prop := (q ≠ 0 → ReqOk s.m s.t) ∧ ∀ h ∈ s.hs, HdOk h
theorem fld_keeps {l : List UInt8} {s s' : St} {h : Option Hd} (hf : fldL l s = .ok s' h) : s'.m = s.m ∧ s'.t = s.t ∧ s'.hs = s.hs ∧ s'.pcs = s.pcs ∧ (∀ x, h = some x → HdOk x) := by
  unfold fldL at hf
  split at hf
  · cases hf
  · cases hf
  · split at hf
    · simp only [Fl.ok.injEq] at hf
      obtain ⟨rfl, rfl⟩ := hf
      exact ⟨rfl, rfl, rfl, rfl, fun x hx => by cases hx⟩
    · split at hf
      · cases hf
      · split at hf
        · cases hf
        · next x hx =>
          simp only [Fl.ok.injEq] at hf
          obtain ⟨rfl, rfl⟩ := hf
          exact ⟨rfl, rfl, rfl, rfl, fun y hy => by simp only [Option.some.injEq] at hy; subst hy; exact hdr_ok hx⟩
theorem step_wf {l : List UInt8} {q q' : Nat} {s s' : St} (hw : Wf q s) (h : stepF l q s = .go q' s') : Wf q' s' := by
  unfold stepF at h
  split at h
  · split at h
    · cases h
    · cases h
    · split at h
      · cases h
      · next hr =>
        simp only [Nx.go.injEq] at h
        obtain ⟨rfl, rfl⟩ := h
        exact ⟨fun _ => req_ok hr, hw.2⟩
  · split at h
    · cases h
    · next s1 hf =>
      obtain ⟨k1, k2, k3, _, _⟩ := fld_keeps hf
      simp only [Nx.go.injEq] at h
      obtain ⟨rfl, rfl⟩ := h
      exact ⟨fun _ => by rw [k1, k2]; exact hw.1 (by omega), by rw [k3]; exact hw.2⟩
    · next s1 x hf =>
      obtain ⟨k1, k2, k3, _, k5⟩ := fld_keeps hf
      simp only [Nx.go.injEq] at h
      obtain ⟨rfl, rfl⟩ := h
      refine ⟨fun _ => by show ReqOk s1.m s1.t; rw [k1, k2]; exact hw.1 (by omega), ?_⟩
      intro y hy
      simp only [k3, List.mem_append, List.mem_singleton] at hy
      rcases hy with hy | rfl
      · exact hw.2 y hy
      · exact k5 _ rfl
  · split at h
    · cases h
    · split at h
      · simp only [Nx.go.injEq] at h
        obtain ⟨rfl, rfl⟩ := h
        exact ⟨fun _ => hw.1 (by omega), hw.2⟩
      · simp only [Nx.go.injEq] at h
        obtain ⟨rfl, rfl⟩ := h
        exact ⟨fun _ => hw.1 (by omega), hw.2⟩
  · split at h <;> cases h
  · split at h
    · cases h
    · cases h
    · split at h
      · cases h
      · split at h
        · cases h
        · split at h
          · simp only [Nx.go.injEq] at h
            obtain ⟨rfl, rfl⟩ := h
            exact ⟨fun _ => hw.1 (by omega), hw.2⟩
          · simp only [Nx.go.injEq] at h
            obtain ⟨rfl, rfl⟩ := h
            exact ⟨fun _ => hw.1 (by omega), hw.2⟩
  · split at h
    · cases h
    · simp only at h
      split at h
      · cases h
      · split at h
        · cases h
        · simp only [Nx.go.injEq] at h
          obtain ⟨rfl, rfl⟩ := h
          exact ⟨fun _ => hw.1 (by omega), hw.2⟩
  · split at h
    · cases h
    · cases h
    · next s1 x hf =>
      obtain ⟨k1, k2, k3, _, _⟩ := fld_keeps hf
      simp only [Nx.go.injEq] at h
      obtain ⟨rfl, rfl⟩ := h
      exact ⟨fun _ => by rw [k1, k2]; exact hw.1 (by omega), by rw [k3]; exact hw.2⟩
  · cases h
/-- What a step tells as done is what it holds. -/
theorem fin_wf {l : List UInt8} {q : Nat} {s : St} {u : Nat} {a b : List UInt8} {hs : List Hd} {c : List UInt8} {x y : Bool} (hw : Wf q s) (h : stepF l q s = .fin (.done u a b hs c x y)) : ReqOk a b ∧ ∀ z ∈ hs, HdOk z := by
  match q, h with
  | 0, h =>
    rw [stepF] at h
    split at h
    · cases h
    · cases h
    · split at h <;> cases h
  | 1, h =>
    rw [stepF] at h
    split at h
    · next t hf =>
      simp only [Nx.fin.injEq] at h
      subst h
      rcases fld_not_done hf with h | ⟨_, h⟩ <;> cases h
    · cases h
    · cases h
  | 2, h =>
    rw [stepF] at h
    split at h
    · cases h
    · split at h <;> cases h
  | 3, h =>
    rw [stepF] at h
    split at h
    · cases h
    · simp only [Nx.fin.injEq, doneL, takeL, Tld.done.injEq] at h
      obtain ⟨-, rfl, rfl, rfl, -⟩ := h
      exact ⟨hw.1 (by omega), hw.2⟩
  | 4, h =>
    rw [stepF] at h
    split at h
    · cases h
    · cases h
    · split at h
      · cases h
      · split at h
        · cases h
        · split at h <;> cases h
  | 5, h =>
    rw [stepF] at h
    dsimp only at h
    split at h
    · cases h
    · split at h
      · cases h
      · split at h <;> cases h
  | 6, h =>
    rw [stepF] at h
    split at h
    · next t hf =>
      simp only [Nx.fin.injEq] at h
      subst h
      rcases fld_not_done hf with h | ⟨_, h⟩ <;> cases h
    · next hf =>
      obtain ⟨k1, k2, k3, _, _⟩ := fld_keeps hf
      simp only [Nx.fin.injEq, doneL, Tld.done.injEq] at h
      obtain ⟨-, rfl, rfl, rfl, -⟩ := h
      exact ⟨by rw [k1, k2]; exact hw.1 (by omega), by rw [k3]; exact hw.2⟩
    · cases h
  | n + 7, h =>
    rw [stepF] at h
    · cases h
    all_goals omega
theorem run_wf {l : List UInt8} {u : Nat} {a b : List UInt8} {hs : List Hd} {c : List UInt8} {x y : Bool} : ∀ (n : Nat) {q : Nat} {s : St}, Wf q s → runF l n q s = .done u a b hs c x y → ReqOk a b ∧ ∀ z ∈ hs, HdOk z
  | 0, _, _, _, h => by cases h
  | n + 1, q, s, hw, h => by
    unfold runF at h
    split at h
    · next t ht =>
      subst h
      exact fin_wf hw ht
    · next q' s' hs => exact run_wf n (step_wf hw hs) h
theorem parse_wf {l : List UInt8} {u : Nat} {a b : List UInt8} {hs : List Hd} {c : List UInt8} {x y : Bool} (h : parseL l = .done u a b hs c x y) : ReqOk a b ∧ ∀ z ∈ hs, HdOk z :=
  run_wf _ ⟨fun h => absurd rfl h, fun z hz => by cases hz⟩ h
end Go.Proofs.YtmodmeabjhaklaaGreatDoor
