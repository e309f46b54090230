/-
  HttpCuts: the law's walk.
-/
import Derived.Test.YtmodmeabjhaklaaGreatDoorRunF
import Derived.Test.YtmodmeabjhaklaaGreatDoorRunE
import Derived.Deep.Cut
namespace Go.Proofs.YtmodmeabjhaklaaGreatDoor
open Go.RowKit

theorem fld_same {l : List UInt8} {s s' : St} {h : Option Hd} (hf : fldL l s = .ok s' h) : s'.hs = s.hs := by
  unfold fldL at hf
  split at hf
  · cases hf
  · cases hf
  · split at hf
    · simp only [Fl.ok.injEq] at hf
      obtain ⟨rfl, -⟩ := hf
      rfl
    · split at hf
      · cases hf
      · split at hf
        · cases hf
        · simp only [Fl.ok.injEq] at hf
          obtain ⟨rfl, -⟩ := hf
          rfl
theorem step_hs {l : List UInt8} {q q' : Nat} {s s' : St} (ha : s.hs.length ≤ s.at_) (h : stepF l q s = .go q' s') : s'.hs.length ≤ s'.at_ := by
  unfold stepF at h
  split at h
  · split at h
    · cases h
    · cases h
    · split at h
      · cases h
      · simp only [Nx.go.injEq] at h
        obtain ⟨rfl, rfl⟩ := h
        simp only
        omega
  · split at h
    · cases h
    · next s1 hf =>
      have := fld_go hf
      have := fld_same hf
      simp only [Nx.go.injEq] at h
      obtain ⟨rfl, rfl⟩ := h
      rw [this]
      omega
    · next s1 x hf =>
      have := fld_go hf
      have := fld_same hf
      simp only [Nx.go.injEq] at h
      obtain ⟨rfl, rfl⟩ := h
      simp only [this, List.length_append, List.length_cons, List.length_nil]
      omega
  · split at h
    · cases h
    · split at h
      · simp only [Nx.go.injEq] at h
        obtain ⟨rfl, rfl⟩ := h
        exact ha
      · simp only [Nx.go.injEq] at h
        obtain ⟨rfl, rfl⟩ := h
        exact ha
  · split at h <;> cases h
  · split at h
    · cases h
    · cases h
    · split at h
      · cases h
      · split at h
        · cases h
        · split at h
          · simp only [Nx.go.injEq] at h
            obtain ⟨rfl, rfl⟩ := h
            simp only
            omega
          · simp only [Nx.go.injEq] at h
            obtain ⟨rfl, rfl⟩ := h
            simp only
            omega
  · split at h
    · cases h
    · simp only at h
      split at h
      · cases h
      · split at h
        · cases h
        · simp only [Nx.go.injEq] at h
          obtain ⟨rfl, rfl⟩ := h
          simp only [takeL]
          omega
  · split at h
    · cases h
    · cases h
    · next s1 x hf =>
      have := fld_go hf
      have := fld_same hf
      simp only [Nx.go.injEq] at h
      obtain ⟨rfl, rfl⟩ := h
      rw [this]
      omega
  · cases h
/-- What is done has used no more than is there. -/
theorem run_room {l : List UInt8} {u : Nat} {a b : List UInt8} {hs : List Hd} {c : List UInt8} {x y : Bool} : ∀ (n : Nat) {q : Nat} {s : St}, s.at_ ≤ l.length → s.hs.length ≤ s.at_ → runF l n q s = .done u a b hs c x y → u ≤ l.length ∧ hs.length ≤ u
  | 0, _, _, _, _, h => by cases h
  | n + 1, q, s, ha, hb, h => by
    unfold runF at h
    split at h
    · next t ht =>
      subst h
      match q, ht with
      | 0, ht =>
        rw [stepF] at ht
        split at ht
        · cases ht
        · cases ht
        · split at ht <;> cases ht
      | 1, ht =>
        rw [stepF] at ht
        split at ht
        · next t hf =>
          simp only [Nx.fin.injEq] at ht
          subst ht
          rcases fld_not_done hf with h | ⟨_, h⟩ <;> cases h
        · cases ht
        · cases ht
      | 2, ht =>
        rw [stepF] at ht
        split at ht
        · cases ht
        · split at ht <;> cases ht
      | 3, ht =>
        rw [stepF] at ht
        split at ht
        · cases ht
        · simp only [Nx.fin.injEq, doneL, takeL, Tld.done.injEq] at ht
          obtain ⟨h1, -, -, rfl, -⟩ := ht
          omega
      | 4, ht =>
        rw [stepF] at ht
        split at ht
        · cases ht
        · cases ht
        · split at ht
          · cases ht
          · split at ht
            · cases ht
            · split at ht <;> cases ht
      | 5, ht =>
        rw [stepF] at ht
        dsimp only at ht
        split at ht
        · cases ht
        · split at ht
          · cases ht
          · split at ht <;> cases ht
      | 6, ht =>
        rw [stepF] at ht
        split at ht
        · next t hf =>
          simp only [Nx.fin.injEq] at ht
          subst ht
          rcases fld_not_done hf with h | ⟨_, h⟩ <;> cases h
        · next hf =>
          have := fld_go hf
          have := fld_same hf
          simp only [Nx.fin.injEq, doneL, Tld.done.injEq] at ht
          obtain ⟨h1, -, -, rfl, -⟩ := ht
          rw [this]
          omega
        · cases ht
      | n + 7, ht =>
        rw [stepF] at ht
        · cases ht
        all_goals omega
    · next q' s' hs => exact run_room n (step_at ha hs).2.1 (step_hs hb hs) h
theorem parse_room {l : List UInt8} {u : Nat} {a b : List UInt8} {hs : List Hd} {c : List UInt8} {x y : Bool} (h : parseL l = .done u a b hs c x y) : u ≤ l.length ∧ hs.length ≤ u := run_room _ (Nat.zero_le _) (Nat.zero_le _) h
/-- What is told of a beginning, held against what is told of the whole. -/
def CutR (k : Nat) (t s : Tld) : Prop := match t with
  | .more => ∀ u a b hs c x y, s = .done u a b hs c x y → k < u
  | .bad e => s = .bad e
  | .done u a b hs c x y => s = .done u a b hs c x y ∧ u ≤ k ∧ hs.length ≤ u
theorem cut_told (l : List UInt8) (k : Nat) (hk : k ≤ l.length) : CutR k (parseL (l.take k)) (parseL l) := by
  have hl : (l.take k).length = k := by rw [List.length_take]; omega
  cases h : parseL (l.take k) with
  | more =>
    intro u a b hs c x y h2
    have := parse_wait (l.drop k) h (by rw [List.take_append_drop]; exact h2)
    omega
  | bad e =>
    have := parse_more (l.drop k) (by intro h; cases h) h
    rw [List.take_append_drop] at this
    exact this
  | done u a b hs c x y =>
    have h1 := parse_more (l.drop k) (by intro h; cases h) h
    rw [List.take_append_drop] at h1
    have := parse_room h
    exact ⟨h1, by omega, by omega⟩
set_option maxRecDepth 20000 in
set_option maxHeartbeats 4000000 in
theorem httpCuts_walk (a : Option Addr) (l : List UInt8) (cap : Nat) (at_ : Int) (w : World) (hcap : l.length ≤ cap) (hB : Bytes w a l) (hab : ∀ x, a = some x → x.spot = none ∧ x.block < w.heap.size) (han : a = none → cap = 0) (hl : l.length ≤ 1000000000) (hm : Mx w) (he : Er w) :
    Calls Tryz.prog 4 #[.slice a l.length cap, .int .i64 at_] w fun e w' => e = .returned (.bool true) ∧ Below w.heap.size w w' := by
  have AW := (show Hid (∀ W, Below w.heap.size w W → Calls Tryz.prog 12 #[] W fun e w' => e = .returned (.bool true) ∧ Below w.heap.size w w') from fun W hW => (awake_any W (hm.below hW (Nat.le_refl _)) (he.below hW (Nat.le_refl _))).mono fun e w' ⟨h1, h2⟩ => ⟨h1, hW.trans (h2.mono hW.size)⟩)
  have hn : ¬ (l.length : Int) < 0 := by omega
  by_cases hneg : at_ < 0
  · clear hB hab han hm he
    go_enter Tryz.func4, Tryz.ntmps4
    go_wp2_with fail
    refine Calls.mono (AW.out w (Below.refl _ _)) ?_
    rintro e w1 ⟨rfl, hb⟩
    go_wp2
    go_ret
    exact ⟨rfl, hb⟩
  · by_cases hbig : (l.length : Int) < at_
    · clear hB hab han hm he
      go_enter Tryz.func4, Tryz.ntmps4
      go_wp2_with fail
      refine Calls.mono (AW.out w (Below.refl _ _)) ?_
      rintro e w1 ⟨rfl, hb⟩
      go_wp2
      go_ret
      exact ⟨rfl, hb⟩
    · obtain ⟨k, rfl⟩ : ∃ k : Nat, at_ = (k : Int) := ⟨at_.toNat, by omega⟩
      have hk : k ≤ l.length := by omega
      have K1 := (show Hid _ from parse_any a l cap w hcap hB hab han hl hm he)
      have K2 := (show Hid (∀ W, Below w.heap.size w W → Calls Tryz.prog 10 #[.slice a k cap] W fun e w' => ∃ T : Tl, e = .returned T.v ∧ TlR w' W.heap.size T (parseL (l.take k)) ∧ Below W.heap.size W w') from fun W hW => by
        have hlk : (l.take k).length = k := by rw [List.length_take]; omega
        have := parse_any a (l.take k) cap W (by omega) ((bytes_take hB k).below hW (Nat.le_refl _)) (fun x hx => ⟨(hab x hx).1, Nat.lt_of_lt_of_le (hab x hx).2 hW.size⟩) han (by omega) (hm.below hW (Nat.le_refl _)) (he.below hW (Nat.le_refl _))
        rw [hlk] at this
        exact this)
      have HC : Hid (CutR k (parseL (l.take k)) (parseL l)) := cut_told l k hk
      have hk0 : (0 : Int) ≤ (k : Int) := by omega
      have hki : (k : Int) ≤ (cap : Int) := by omega
      clear hB hab hm he hneg hbig
      go_enter Tryz.func4, Tryz.ntmps4
      go_wp2_with fail
      refine Calls.mono K1.out ?_
      rintro e w1 ⟨T1, rfl, h1, hb1⟩
      obtain ⟨⟨x1, y1, z1, hth⟩, ⟨x2, y2, z2, htb⟩⟩ := h1.form
      have H1 := (show Hid _ from And.intro h1 hb1)
      obtain ⟨kind1, used1, m1, t1, th1, tb1, f1, cl1, co1⟩ := T1
      dsimp only at hth htb
      subst hth htb
      simp only [Tl.v]
      clear h1 hb1 K1
      go_wp2_with fail
      have HA : Hid (Below w.heap.size w (w1.alloc (.cells #[.int .i64 kind1, .int .i64 used1, .string m1, .string t1, .slice x1 y1 z1, .slice x2 y2 z2, .int .i64 f1, .bool cl1, .bool co1] 29)) ∧ (w1.alloc (.cells #[.int .i64 kind1, .int .i64 used1, .string m1, .string t1, .slice x1 y1 z1, .slice x2 y2 z2, .int .i64 f1, .bool cl1, .bool co1] 29)).heap[w1.heap.size]? = some (.cells #[.int .i64 kind1, .int .i64 used1, .string m1, .string t1, .slice x1 y1 z1, .slice x2 y2 z2, .int .i64 f1, .bool cl1, .bool co1] 29 (0, 0)) ∧ Below w1.heap.size w1 (w1.alloc (.cells #[.int .i64 kind1, .int .i64 used1, .string m1, .string t1, .slice x1 y1 z1, .slice x2 y2 z2, .int .i64 f1, .bool cl1, .bool co1] 29))) := ⟨H1.out.2.alloc H1.out.2.size _, heap_alloc_new w1 _, (Below.refl _ _).alloc (Nat.le_refl _) _⟩
      generalize w1.alloc (.cells #[.int .i64 kind1, .int .i64 used1, .string m1, .string t1, .slice x1 y1 z1, .slice x2 y2 z2, .int .i64 f1, .bool cl1, .bool co1] 29) = WA at *
      refine Calls.mono (K2.out _ HA.out.1) ?_
      rintro e w2 ⟨T2, rfl, h2, hb2⟩
      obtain ⟨⟨x3, y3, z3, hth⟩, ⟨x4, y4, z4, htb⟩⟩ := h2.form
      obtain ⟨N, hN⟩ : ∃ N, N = w1.heap.size := ⟨_, rfl⟩
      have H2 := (show Hid _ from And.intro h2 hb2)
      obtain ⟨kind2, used2, m2, t2, th2, tb2, f2, cl2, co2⟩ := T2
      dsimp only at hth htb
      subst hth htb
      simp only [Tl.v]
      have HA3 : Hid (Below w1.heap.size w1 WA) := HA.out.2.2
      rw [← hN] at HA ⊢
      have HN : Hid (N = w1.heap.size) := hN
      clear h2 hb2 K2 hN
      go_upto_region 5 with fail
      obtain ⟨W, hW⟩ : ∃ W, W = w2.alloc (.cells #[.int .i64 kind2, .int .i64 used2, .string m2, .string t2, .slice x3 y3 z3, .slice x4 y4 z4, .int .i64 f2, .bool cl2, .bool co2] 29) := ⟨_, rfl⟩
      rw [← hW]
      obtain ⟨M, hM⟩ : ∃ M, M = w2.heap.size := ⟨_, rfl⟩
      rw [← hM]
      have hb2W : Below w2.heap.size w2 W := by rw [hW]; exact (Below.refl _ _).alloc (Nat.le_refl _) _
      have n1 : W.heap[N]? = some (.cells #[.int .i64 kind1, .int .i64 used1, .string m1, .string t1, .slice x1 y1 z1, .slice x2 y2 z2, .int .i64 f1, .bool cl1, .bool co1] 29 (0, 0)) := by
        have h1 := (H2.out.2.block N (blk_lt HA.out.2.1)).trans HA.out.2.1
        exact (hb2W.block N (blk_lt h1)).trans h1
      have n2 : W.heap[M]? = some (.cells #[.int .i64 kind2, .int .i64 used2, .string m2, .string t2, .slice x3 y3 z3, .slice x4 y4 z4, .int .i64 f2, .bool cl2, .bool co2] 29 (0, 0)) := by rw [hW, hM]; exact heap_alloc_new w2 _
      have HBW : Hid (Below w.heap.size w W ∧ Below w1.heap.size w1 W ∧ Below w2.heap.size w2 W) := by
        have h1 : Below w1.heap.size w1 w2 := HA3.out.trans (H2.out.2.mono HA3.out.size)
        exact ⟨HA.out.1.trans ((H2.out.2.mono HA.out.1.size).trans (hb2W.mono (Nat.le_trans HA.out.1.size H2.out.2.size))), h1.trans (hb2W.mono h1.size), hb2W⟩
      have AW2 := (show Hid _ from AW.out W HBW.out.1)
      clear hW hM hb2W
      have c0 := cell_blk n1 0
      have c1 := cell_blk n1 1
      have c2 := cell_blk n1 2
      have c3 := cell_blk n1 3
      have c4 := cell_blk n1 4
      have c5 := cell_blk n1 5
      have c6 := cell_blk n1 6
      have c7 := cell_blk n1 7
      have c8 := cell_blk n1 8
      have d0 := cell_blk n2 0
      have d1 := cell_blk n2 1
      have d2 := cell_blk n2 2
      have d3 := cell_blk n2 3
      have d4 := cell_blk n2 4
      have d5 := cell_blk n2 5
      have d6 := cell_blk n2 6
      have d7 := cell_blk n2 7
      have d8 := cell_blk n2 8
      simp at c0 c1 c2 c3 c4 c5 c6 c7 c8 d0 d1 d2 d3 d4 d5 d6 d7 d8
      have HNN := (show Hid _ from And.intro n1 n2)
      clear n1 n2
      generalize parseL (l.take k) = P2 at *
      generalize parseL l = P1 at *
      cases P2 with
      | more =>
        have h2 := H2.out.1
        simp only [TlR, moreT, Tl.mk.injEq] at h2
        obtain ⟨rfl, rfl, -, -, -, -, -, -, -⟩ := h2
        cases P1 with
        | more =>
          have h1 := H1.out.1
          simp only [TlR, moreT, Tl.mk.injEq] at h1
          obtain ⟨rfl, -, -, -, -, -, -, -, -⟩ := h1
          go_wp2_with (go_at_call 12; refine Calls.mono AW2.out ?_; rintro e w9 ⟨rfl, hb9⟩)
          go_ret
          exact ⟨rfl, hb9⟩
        | bad e =>
          have h1 := H1.out.1
          simp only [TlR, badT, Tl.mk.injEq] at h1
          obtain ⟨rfl, -, -, -, -, -, -, -, -⟩ := h1
          go_wp2_with (go_at_call 12; refine Calls.mono AW2.out ?_; rintro e w9 ⟨rfl, hb9⟩)
          go_ret
          exact ⟨rfl, hb9⟩
        | done u a1 b1 hs c y z =>
          obtain ⟨hv, bv, h1, -, -⟩ := H1.out.1
          simp only [Tl.mk.injEq] at h1
          obtain ⟨rfl, rfl, -, -, -, -, -, -, -⟩ := h1
          have hu := HC.out u a1 b1 hs c y z rfl
          have hui : (k : Int) < (u : Int) := by omega
          clear hu
          go_wp2_with (go_at_call 12; refine Calls.mono AW2.out ?_; rintro e w9 ⟨rfl, hb9⟩)
          go_ret
          exact ⟨rfl, hb9⟩
      | bad e =>
        have h2 := H2.out.1
        simp only [TlR, badT, Tl.mk.injEq] at h2
        obtain ⟨rfl, -, -, -, -, -, rfl, -, -⟩ := h2
        have hP : P1 = .bad _ := HC.out
        subst hP
        have h1 := H1.out.1
        simp only [TlR, badT, Tl.mk.injEq] at h1
        obtain ⟨rfl, -, -, -, -, -, rfl, -, -⟩ := h1
        go_wp2_with (go_at_call 12; refine Calls.mono AW2.out ?_; rintro e w9 ⟨rfl, hb9⟩)
        go_ret
        exact ⟨rfl, hb9⟩
      | done u a1 b1 hs c y z =>
        obtain ⟨hP, hu, hsu⟩ := HC.out
        subst hP
        obtain ⟨hv1, bv1, h1, o1, o2⟩ := H1.out.1
        simp only [Tl.mk.injEq] at h1
        obtain ⟨rfl, rfl, rfl, rfl, rfl, rfl, rfl, rfl, rfl⟩ := h1
        obtain ⟨hv2, bv2, h2, o3, o4⟩ := H2.out.1
        simp only [Tl.mk.injEq] at h2
        obtain ⟨rfl, rfl, rfl, rfl, rfl, rfl, rfl, rfl, rfl⟩ := h2
        obtain ⟨ha1, hc1, e1, hd1⟩ := own_hdrs o1
        obtain ⟨ba1, bc1, e2, hy1⟩ := Own.bytes o2
        obtain ⟨ha2, hc2, e3, hd2⟩ := own_hdrs o3
        obtain ⟨ba2, bc2, e4, hy2⟩ := Own.bytes o4
        simp only [Value.slice.injEq] at e1 e2 e3 e4
        obtain ⟨rfl, rfl, rfl⟩ := e1
        obtain ⟨rfl, rfl, rfl⟩ := e2
        obtain ⟨rfl, rfl, rfl⟩ := e3
        obtain ⟨rfl, rfl, rfl⟩ := e4
        have hui : (u : Int) ≤ (k : Int) := by omega
        have hsl : hs.length ≤ 1000000000 := by omega
        have SM := (show Hid _ from same_any a1 b1 hs c x1 x3 z1 z3 x2 x4 z2 z4 W (hd1.below HBW.out.2.1 (Nat.le_refl _)) (hd2.below HBW.out.2.2 (Nat.le_refl _)) (hy1.below HBW.out.2.1 (Nat.le_refl _)) (hy2.below HBW.out.2.2 (Nat.le_refl _)) hsl)
        have AW3 := (show Hid (∀ W', Below W.heap.size W W' → Calls Tryz.prog 12 #[] W' fun e w' => e = .returned (.bool true) ∧ Below w.heap.size w w') from fun W' h => AW.out W' (HBW.out.1.trans (h.mono HBW.out.1.size)))
        clear hu hsu o1 o2 o3 o4 hd1 hd2 hy1 hy2 AW2
        unfold rqV at SM
        cases cl2 <;> cases co2
        all_goals
          go_wp2_with fail
          refine Calls.mono SM.out ?_
          rintro e w8 ⟨rfl, hb8⟩
          have AW4 := (show Hid _ from AW3.out w8 hb8)
          have n1 := (hb8.block N (blk_lt HNN.out.1)).trans HNN.out.1
          have n2 := (hb8.block M (blk_lt HNN.out.2)).trans HNN.out.2
          have p7 := cell_blk n1 7
          have p8 := cell_blk n1 8
          have q7 := cell_blk n2 7
          have q8 := cell_blk n2 8
          simp at p7 p8 q7 q8
          clear n1 n2 hb8
          go_wp2_with (go_at_call 12; refine Calls.mono AW4.out ?_; rintro e w9 ⟨rfl, hb9⟩)
          go_ret
          exact ⟨rfl, hb9⟩
end Go.Proofs.YtmodmeabjhaklaaGreatDoor
