/-
  The law's between by its contract.
-/
import Derived.Test.YtpophalhmjchkaaShp
namespace Go.Proofs.Ytpophalhmjchkaa
open Go.RowKit

/-- Where a place on a level leads to on the last one. -/
def downI : List Kss → Nat → Nat
  | kss :: r :: rest, a => downI (r :: rest) (firstN kss a)
  | _, a => a
theorem downI_step {ls : List Kss} {k : Nat} (h : k + 1 < ls.length) (a : Nat) : downI (ls.drop k) a = downI (ls.drop (k + 1)) (firstN ls[k] a) := by
  rw [List.drop_eq_getElem_cons (by omega), List.drop_eq_getElem_cons h]
  rfl
theorem downI_last {ls : List Kss} {k : Nat} (h : ls.length ≤ k + 1) (a : Nat) : downI (ls.drop k) a = a := by
  by_cases h1 : k < ls.length
  · rw [List.drop_eq_getElem_cons h1, List.drop_eq_nil_of_le h]; rfl
  · rw [List.drop_eq_nil_of_le (by omega)]; rfl
/-- All levels are small. -/
def Sml (ls : List Kss) : Prop := ls.length ≤ 1000 ∧ ∀ kss ∈ ls, kss.length ≤ 5000 ∧ ∀ k ∈ kss, k.length ≤ 100
/-- What between asks. -/
structure BP (ls : List Kss) (d child : Nat) (key : ByteArray) : Prop where
  lt : d + 1 < ls.length
  ch : child + 1 < ls[d + 1].length
  le : downI (ls.drop (d + 1)) (child + 2) ≤ (ls[ls.length - 1]'(by omega)).length
  ok : ∀ n, downI (ls.drop (d + 1)) child ≤ n → n < downI (ls.drop (d + 1)) (child + 2) → ∀ (hn : n < (ls[ls.length - 1]'(by omega)).length), ∀ x ∈ (ls[ls.length - 1]'(by omega))[n], (n < downI (ls.drop (d + 1)) (child + 1) → klt x key) ∧ (¬ n < downI (ls.drop (d + 1)) (child + 1) → ¬ klt x key)

theorem firstN_any {kss : Kss} (hl : kss.length ≤ 5000) (hk : ∀ k ∈ kss, k.length ≤ 100) (a : Nat) : firstN kss a ≤ 600000 := by
  by_cases h : a ≤ kss.length
  · have := firstN_le hk a h; omega
  · rw [firstN_all (by omega)]; have := firstN_le hk kss.length (Nat.le_refl _); omega

set_option maxHeartbeats 8000000 in
set_option maxRecDepth 40000 in
theorem between_any (u : Value) (ls : List Kss) (d child : Nat) (key : ByteArray) (B : Nat) (w : World) (hv : Lvs w B u ls) (hs : Sml ls) (hb : BP ls d child key) :
    Calls Try.prog 42 #[u, .int .i64 (d : Int), .int .i64 (child : Int), .string key] w fun e w' => e = .returned (.bool true) ∧ Below w.heap.size w w' := by
  obtain ⟨N, hN⟩ : ∃ N, N = ls.length := ⟨_, rfl⟩
  have hlt := hb.lt
  obtain ⟨g, uc, v1, eu, k1, hr1⟩ := hv.at hlt
  rw [← hN] at eu hlt
  subst eu
  obtain ⟨a1, c1, rfl⟩ := hr1.sl
  obtain ⟨n1, hn1⟩ : ∃ n1, n1 = ls[d + 1].length := ⟨_, rfl⟩
  rw [← hn1] at k1
  have hch : child + 1 < n1 := by rw [hn1]; exact hb.ch
  have hn5 : n1 ≤ 5000 := by rw [hn1]; exact (hs.2 _ (List.getElem_mem _)).1
  have hN5 : N ≤ 1000 := by rw [hN]; exact hs.1
  have HLV : Hid (∀ k, k < N → ∃ v kss, w.cell? ⟨g, k, none⟩ = some v ∧ (∀ z : Nat, z ≤ 600000 → ∀ wx, Below w.heap.size w wx → Calls Try.prog 55 #[v, .int .i64 (z : Int)] wx fun e w' => e = .returned (.int .i64 (firstN kss z : Int)) ∧ w' = wx) ∧ (∀ z : Nat, firstN kss z ≤ 600000) ∧ (k + 1 < N → ∀ z : Nat, downI (ls.drop k) z = downI (ls.drop (k + 1)) (firstN kss z))) := (by
    intro k hk
    have hk2 : k < ls.length := by omega
    obtain ⟨g', c', v, e, h1, h2⟩ := hv.at hk2
    simp only [Value.slice.injEq, Option.some.injEq, Addr.mk.injEq] at e
    obtain ⟨⟨rfl, _⟩, _⟩ := e
    obtain ⟨hl5, hk1⟩ := hs.2 _ (List.getElem_mem hk2)
    obtain ⟨kss, hkss⟩ : ∃ kss, kss = ls[k] := ⟨_, rfl⟩
    have hst : k + 1 < N → ∀ z, downI (ls.drop k) z = downI (ls.drop (k + 1)) (firstN kss z) := fun h3 z => by rw [hkss]; exact downI_step (by omega) z
    rw [← hkss] at h2 hl5 hk1
    refine ⟨v, kss, h1, ?_, fun z => firstN_any hl5 hk1 z, hst⟩
    intro z hz wx hwx
    have hl6 : kss.length ≤ 10000 := by omega
    have hz6 : z ≤ 1000000 := by omega
    have h5 := first_any v kss z B wx (h2.below hwx) hl6 hk1 hz6
    clear hst hkss
    refine Calls.mono h5 ?_
    rintro e w' ⟨e1, e2⟩
    exact ⟨e1, e2.symm⟩)
  have HBP : Hid (BP ls d child key) := hb
  have HLF : Hid (∃ nl la lc, w.cell? ⟨g, N - 1, none⟩ = some (.slice la nl lc) ∧ downI (ls.drop (d + 1)) (child + 2) ≤ nl ∧ ∀ n, downI (ls.drop (d + 1)) child ≤ n → n < downI (ls.drop (d + 1)) (child + 2) → n < nl → ∃ gl nk ka kc, la = some ⟨gl, 0, none⟩ ∧ w.cell? ⟨gl, n, none⟩ = some (.slice ka nk kc) ∧ nk ≤ 100 ∧ ∀ i, i < nk → ∃ gk x, ka = some ⟨gk, 0, none⟩ ∧ w.cell? ⟨gk, i, none⟩ = some (.string x) ∧ (n < downI (ls.drop (d + 1)) (child + 1) → Op.bytesLess x.toList key.toList = true) ∧ (¬ n < downI (ls.drop (d + 1)) (child + 1) → Op.bytesLess x.toList key.toList = false)) := (by
    have hlast : ls.length - 1 < ls.length := by omega
    obtain ⟨g', c', v, e, h1, h2⟩ := hv.at hlast
    simp only [Value.slice.injEq, Option.some.injEq, Addr.mk.injEq] at e
    obtain ⟨⟨rfl, _⟩, _⟩ := e
    obtain ⟨la, lc, ev⟩ := h2.sl
    refine ⟨_, la, lc, by rw [hN, h1, ev], hb.le, fun n hn1 hn2 hn3 => ?_⟩
    obtain ⟨gl, gc, x, e2, h3, h4⟩ := h2.at hn3
    rw [ev] at e2
    simp only [Value.slice.injEq] at e2
    obtain ⟨ka, kc, ex⟩ := h4.sl
    refine ⟨gl, _, ka, kc, e2.1, by rw [h3, ex], (hs.2 _ (List.getElem_mem hlast)).2 _ (List.getElem_mem hn3), fun i hi => ?_⟩
    obtain ⟨gk, gc2, e3, h5⟩ := h4.at hi
    rw [ex] at e3
    simp only [Value.slice.injEq] at e3
    obtain ⟨q1, q2⟩ := hb.ok n hn1 hn2 hn3 _ (List.getElem_mem hi)
    exact ⟨gk, _, e3.1, h5, fun hq => by rw [less_klt]; exact decide_eq_true (q1 hq), fun hq => by rw [less_klt]; exact decide_eq_false (q2 hq)⟩)
  have HN : Hid (N = ls.length) := hN
  clear hv hs hb hr1 hn1 hN
  have hdi : (d : Int) + 1 < (N : Int) := by omega
  have hci : (child : Int) + 1 < (n1 : Int) := by omega
  go_enter Try.func42, Try.ntmps42
  go_wp2
  go_loopw [9, 10, 11, 12] (fun av bv cv kv wr => ∃ a b c k : Nat, av = .int .i64 a ∧ bv = .int .i64 b ∧ cv = .int .i64 c ∧ kv = .int .i64 k ∧ k < N ∧ a ≤ 600000 ∧ b ≤ 600000 ∧ c ≤ 600000 ∧ Below w.heap.size w wr ∧
      downI (ls.drop k) a = downI (ls.drop (d + 1)) child ∧ downI (ls.drop k) b = downI (ls.drop (d + 1)) (child + 1) ∧ downI (ls.drop k) c = downI (ls.drop (d + 1)) (child + 2)) (fun _ _ _ kv _ => N - (intOf kv).toNat)
  case atStart => exact ⟨child, child + 1, child + 2, d + 1, rfl, by go_num, by go_num, by go_num, hlt, by omega, by omega, by omega, Below.refl _ _, rfl, rfl, rfl⟩
  case round =>
    obtain ⟨a, b, c, k, rfl, rfl, rfl, rfl, hk, ha, hb, hc, hbw, e1, e2, e3⟩ := hrel
    by_cases hkN : k + 1 < N
    · obtain ⟨v, kss, hcv, G, hfb, st⟩ := HLV.out k hk
      have hki : (k : Int) + 1 < (N : Int) := by omega
      have hki2 : (k : Int) < (N : Int) := by omega
      have st' := st hkN
      rw [st'] at e1 e2 e3
      have GA : Hid (∀ nq, Calls Try.prog 55 #[v, .int .i64 (a : Int)] (wr.drewN nq) fun e w' => e = .returned (.int .i64 (firstN kss a : Int)) ∧ w' = wr.drewN nq) := fun nq => G a ha _ (below_drewN hbw nq)
      have GB : Hid (∀ nq, Calls Try.prog 55 #[v, .int .i64 (b : Int)] (wr.drewN nq) fun e w' => e = .returned (.int .i64 (firstN kss b : Int)) ∧ w' = wr.drewN nq) := fun nq => G b hb _ (below_drewN hbw nq)
      have GC : Hid (∀ nq, Calls Try.prog 55 #[v, .int .i64 (c : Int)] (wr.drewN nq) fun e w' => e = .returned (.int .i64 (firstN kss c : Int)) ∧ w' = wr.drewN nq) := fun nq => G c hc _ (below_drewN hbw nq)
      have HE : Hid _ := (⟨e1, e2, e3, hfb a, hfb b, hfb c⟩ : _ ∧ _ ∧ _ ∧ _ ∧ _ ∧ _)
      have hck : wr.cell? ⟨g, k, none⟩ = some v := (hbw.cell (p := ⟨g, k, none⟩) (cell_lt hcv)).trans hcv
      have HBW : Hid (Below w.heap.size w wr) := hbw
      obtain ⟨fa, hfa⟩ : ∃ fa, fa = firstN kss a := ⟨_, rfl⟩
      obtain ⟨fb, hfb'⟩ : ∃ fb, fb = firstN kss b := ⟨_, rfl⟩
      obtain ⟨fc, hfc⟩ : ∃ fc, fc = firstN kss c := ⟨_, rfl⟩
      rw [← hfa, ← hfb', ← hfc] at HE
      rw [← hfa] at GA
      rw [← hfb'] at GB
      rw [← hfc] at GC
      clear st st' G e1 e2 e3 hcv hbw hfb hfa hfb' hfc HLV
      go_wp2
      go_quiet (first
        | (go_at_call 55; with_reducible exact Calls.quiet_of_same (GA.out _))
        | (go_at_call 55; with_reducible exact Calls.quiet_of_same (GB.out _))
        | (go_at_call 55; with_reducible exact Calls.quiet_of_same (GC.out _)))
      clear GA GB GC hck
      go_wp2
      go_roundw
      case rel => exact ⟨fa, fb, fc, k + 1, rfl, rfl, rfl, by go_num, hkN, HE.out.2.2.2.1, HE.out.2.2.2.2.1, HE.out.2.2.2.2.2, below_drewN HBW.out _, HE.out.1, HE.out.2.1, HE.out.2.2.1⟩
      case measure => simp [intOf]; omega
    · have HK : Hid (downI (ls.drop (d + 1)) child = a ∧ downI (ls.drop (d + 1)) (child + 1) = b ∧ downI (ls.drop (d + 1)) (child + 2) = c) := (by
        have h1 : ls.length ≤ k + 1 := by have := HN.out; omega
        rw [downI_last h1] at e1 e2 e3
        exact ⟨e1.symm, e2.symm, e3.symm⟩)
      obtain ⟨nl, la, lc, hcl, hle, hrows⟩ := HLF.out
      rw [HK.out.1, HK.out.2.1, HK.out.2.2] at hrows
      rw [HK.out.2.2] at hle
      obtain rfl : N = k + 1 := by omega
      rw [Nat.add_sub_cancel] at hcl
      have hcw : wr.cell? ⟨g, k, none⟩ = some (.slice la nl lc) := (hbw.cell (p := ⟨g, k, none⟩) (cell_lt hcl)).trans hcl
      have HRO : Hid (∀ n, a ≤ n → n < c → ∃ gl nk ka kc, la = some ⟨gl, 0, none⟩ ∧ wr.cell? ⟨gl, n, none⟩ = some (.slice ka nk kc) ∧ nk ≤ 100 ∧ ∀ i, i < nk → ∃ gk x, ka = some ⟨gk, 0, none⟩ ∧ wr.cell? ⟨gk, i, none⟩ = some (.string x) ∧ (n < b → Op.bytesLess x.toList key.toList = true) ∧ (¬ n < b → Op.bytesLess x.toList key.toList = false)) := (by
        intro n h1 h2
        obtain ⟨gl, nk, ka, kc, q1, q2, q3, q4⟩ := hrows n h1 h2 (by omega)
        refine ⟨gl, nk, ka, kc, q1, (hbw.cell (p := ⟨gl, n, none⟩) (cell_lt q2)).trans q2, q3, fun i hi => ?_⟩
        obtain ⟨gk, x, r1, r2, r3⟩ := q4 i hi
        exact ⟨gk, x, r1, (hbw.cell (p := ⟨gk, i, none⟩) (cell_lt r2)).trans r2, r3⟩)
      have hki : ¬ (k : Int) + 1 < ((k + 1 : Nat) : Int) := by omega
      have hcn : ¬ (nl : Int) < (c : Int) := by omega
      have HBW : Hid (Below w.heap.size w wr) := hbw
      clear hrows hbw e1 e2 e3 hcl HLV HLF HBP HK hkN hk
      go_wp2
      go_loopw [14] (fun nv wx => ∃ n : Nat, nv = .int .i64 n ∧ a ≤ n ∧ (n ≤ c ∨ n = a) ∧ wx = wr) (fun nv _ => c - (intOf nv).toNat)
      case atStart => exact ⟨a, rfl, Nat.le_refl _, .inr rfl, rfl⟩
      case round =>
        obtain ⟨n, rfl, han, hnc, rfl⟩ := hrel
        by_cases hlt2 : n < c
        · obtain ⟨gl, nk, ka, kc, rfl, hcn2, hnk, hkeys⟩ := HRO.out n han hlt2
          have hni : (n : Int) < (c : Int) := by omega
          have hnl : (n : Int) < (nl : Int) := by omega
          have HKE : Hid _ := hkeys
          clear hkeys
          go_wp2
          go_loopw [15] (fun iv wx => ∃ i : Nat, iv = .int .i64 i ∧ i ≤ nk ∧ wx = wr) (fun iv _ => nk - (intOf iv).toNat)
          case atStart => exact ⟨0, rfl, Nat.zero_le _, rfl⟩
          case round =>
            obtain ⟨i, rfl, hi, rfl⟩ := hrel
            by_cases hik : i < nk
            · obtain ⟨gk, x, rfl, hcx, hx1, hx2⟩ := HKE.out i hik
              have hii : (i : Int) < (nk : Int) := by omega
              by_cases hnb : n < b
              · have hbi : (n : Int) < (b : Int) := by omega
                have hl := hx1 hnb
                clear hx1 hx2
                go_wp2
                go_roundw
                case rel => exact ⟨i + 1, by go_num, by omega, trivial⟩
                case measure => simp [intOf]; omega
              · have hbi : ¬ (n : Int) < (b : Int) := by omega
                have hl := hx2 hnb
                clear hx1 hx2
                go_wp2
                go_roundw
                case rel => exact ⟨i + 1, by go_num, by omega, trivial⟩
                case measure => simp [intOf]; omega
            · have hii : ¬ (i : Int) < (nk : Int) := by omega
              go_wp2
              go_roundw
              case rel => exact ⟨n + 1, by go_num, by omega, by omega, trivial⟩
              case measure => simp [intOf]; omega
        · have hni : ¬ (n : Int) < (c : Int) := by omega
          clear HRO
          go_wp2
          go_ret
          exact ⟨rfl, HBW.out⟩
end Go.Proofs.Ytpophalhmjchkaa
