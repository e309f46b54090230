/-
  HttpPipes: the law's walk.
-/
import Derived.Test.YtmodmeabjhaklabGreatDoorPiW
import Derived.Test.YtmodmeabjhaklabGreatDoorPrR
import Derived.Test.YtmodmeabjhaklabGreatDoorRunE
import Derived.Test.YtmodmeabjhaklabGreatDoorLawParses
import Derived.Deep.RegionHeld3
import Derived.Deep.RegionWith
import Derived.Deep.Cut
namespace Go.Proofs.YtmodmeabjhaklabGreatDoor
open Go.RowKit

theorem wpList_append_own2 {w : World} {ops : Array Oper} {rest : List Oper} {o : Oper} {a : Act} {Q : Exit → Act → World → Prop} {P : Program} (hgd : o.guard = none) (s x : Operand) (t : TypeId)
    (ho : o.op = .call { callee := .builtin .append, args := #[s, x], argTypes := #[t, t] })
    (base : Nat) (e : TypeId) (i : TypeInfo) (z : Value) (size bytes : Nat) (ht : P.underlying t = some (.slice e)) (hi : P.info? e = some i) (hz : i.zero = some z)
    (hsize : i.size = size) (hby : i.bytes = bytes) (hzs : z.cells.size = size) (hsz : 0 < size)
    (v : Value) (n : Nat) (xs : List Value) (hs : a.eval s = v) (hown : w.ownsRow base e size v n xs)
    (ad : Addr) (m c : Nat) (news : List Value) (hx : a.eval x = .slice (some ad) m c) (hl : news.length = m * size) (hnews : ∀ j u, news[j]? = some u → w.cell? (ad.add j) = some u) (h1 : ∀ u ∈ news, u.oneCell' = true)
    (h63 : n + m ≤ maxLen) (hbytes : (n + m) * bytes ≤ 140737488355328) (hbase : base ≤ w.heap.size)
    (h : ∀ v' w', w'.ownsRow base e size v' (n + m) (xs ++ news) → w.grownBy w' v.ownBlock → (v'.ownBlock = v.ownBlock ∨ ∀ k, v'.ownBlock = some k → w.heap.size ≤ k) → wpList P ops Q rest (a.put o.dst v') w') : wpList P ops Q (o :: rest) a w := by
  refine wpList_plain hgd fun K hK => ?_
  obtain ⟨v', w', hr, h2, h3, h4⟩ := append_own2 (P := P) w base t o.type e i z size bytes ht hi hz hsize hby hzs hsz v n xs hown ad m c news hl hnews h1 h63 hbytes hbase
  unfold Oper.wp execOp
  simp only [ho, resolve, invoke, builtin, Sem.run_bind, Sem.run_pure, Result.andThen_ok, List.map_toArray, List.map_cons, List.map_nil, hs, hx, hr]
  exact hK _ _ (h v' w' h2 h3 h4)
theorem nine_p {W : World} {N : Nat} {v0 v1 v2 v3 v4 v5 v6 v7 v8 : Value} {t : TypeId} (h : W.heap[N]? = some (.cells #[v0, v1, v2, v3, v4, v5, v6, v7, v8] t)) :
    W.cell? ⟨N, 0, none⟩ = some v0 ∧ W.cell? ⟨N, 1, none⟩ = some v1 ∧ W.cell? ⟨N, 2, none⟩ = some v2 ∧ W.cell? ⟨N, 3, none⟩ = some v3 ∧ W.cell? ⟨N, 4, none⟩ = some v4 ∧ W.cell? ⟨N, 5, none⟩ = some v5 := by
  have e0 := cell_blk h 0
  have e1 := cell_blk h 1
  have e2 := cell_blk h 2
  have e3 := cell_blk h 3
  have e4 := cell_blk h 4
  have e5 := cell_blk h 5
  simp at e0 e1 e2 e3 e4 e5
  exact ⟨e0, e1, e2, e3, e4, e5⟩
theorem cell_four_new (w : World) (a b c d : Value) (t : TypeId) : ∀ j u, [a, b, c, d][j]? = some u → (w.alloc (.cells #[a, b, c, d] t)).cell? ((⟨w.heap.size, 0, none⟩ : Addr).add j) = some u := by
  intro j u hj
  rw [Addr.add_lit, World.cell?_alloc_mark]
  simpa using hj
theorem from_lo {a : Option Addr} {cap k N : Nat} (h : ∀ x, a = some x → x.spot = none ∧ x.block < N) : ∀ x, fromA a cap k = some x → x.spot = none ∧ x.block < N := by
  intro x e
  unfold fromA at e
  split at e
  · exact h x e
  · cases a with
    | none => simp at e
    | some y =>
      obtain ⟨yb, yo, ys⟩ := y
      have := h _ rfl
      simp only at this
      obtain ⟨rfl, h2⟩ := this
      simp only [Option.map_some, Addr.add_lit, Option.some.injEq] at e
      subst e
      exact ⟨rfl, h2⟩
theorem from_nil {a : Option Addr} {cap k : Nat} (h : a = none → cap = 0) : fromA a cap k = none → cap - k = 0 := by
  intro e
  unfold fromA at e
  split at e
  · omega
  · have : a = none := by cases a with
      | none => rfl
      | some x => simp at e
    have := h this
    omega
theorem field_kind (W : World) : (Instr.field 28 (.agg #[.int .i64 1, .int .i64 0, .string ⟨#[]⟩, .string ⟨#[]⟩, .slice none 0 0, .slice none 0 0, .int .i64 0, .bool false, .bool false]) 0).run Tryz.prog W = .ok (.int .i64 1) W := by kernel_rfl
theorem pip_none {A : List UInt8} (h : Pip A []) : A = [] := h
set_option maxRecDepth 20000 in
set_option maxHeartbeats 8000000 in
theorem httpPipes_walk (a : Option Addr) (L : List Rq4) (cap : Nat) (w : World) (hR : Reqs w a L) (hl : ∀ q ∈ L, (printL q.m q.t q.hs q.b).length ≤ 100000000 ∧ q.hs.length ≤ 100000000) (hm : Mx w) (he : Er w) :
    Calls Tryz.prog 4 #[.slice a L.length cap] w fun e w' => e = .returned (.bool true) ∧ Below w.heap.size w w' := by
  have AW := (show Hid (∀ W, Below w.heap.size w W → Calls Tryz.prog 9 #[] W fun e w' => e = .returned (.bool true) ∧ Below w.heap.size w w') from fun W hW => (awake_any W (hm.below hW (Nat.le_refl _)) (he.below hW (Nat.le_refl _))).mono fun e w' ⟨h1, h2⟩ => ⟨h1, hW.trans (h2.mono hW.size)⟩)
  have HW := (show Hid (Reqs w a L ∧ Mx w ∧ Er w) from ⟨hR, hm, he⟩)
  have HL := (show Hid (∀ q ∈ L, (printL q.m q.t q.hs q.b).length ≤ 100000000 ∧ q.hs.length ≤ 100000000) from hl)
  clear hR hl hm he
  go_enter Tryz.func4, Tryz.ntmps4
  go_wp2
  go_loopw [3, 4, 5] (fun av ov i wr => ∃ (k : Nat) (E : List Ent) (A : List UInt8), k ≤ L.length ∧ k ≤ 10 ∧ i = .int .i64 k ∧ Hid (Pip A E ∧ A.length ≤ 5000 * k ∧ E.length ≤ k) ∧ Hid (Pg w wr A E E av ov)) (fun _ _ i _ => 10 - (intOf i).toNat)
  case atStart => exact ⟨0, [], [], Nat.zero_le _, Nat.zero_le _, rfl, ⟨rfl, by simp, by simp⟩, ⟨.inl ⟨rfl, rfl⟩, World.ownsRow_nil _ _ _ _, (fun x hx => by simp at hx), (fun k hk => by cases hk), Below.refl _ _⟩⟩
  case round =>
    obtain ⟨k, E, A, hkl, hk10, rfl, hp, hpg⟩ := hrel
    go_upto_region 4 with fail
    go_cut [17] from 10 to 16 (fun s w' => s = .bool (decide (k < L.length ∧ k < 10)) ∧ wr = w')
    case first =>
      by_cases h1 : k < L.length
      · have h1i : (k : Int) < (L.length : Int) := by omega
        by_cases h2 : k < 10
        · have h2i : (k : Int) < 10 := by omega
          go_wp2
          go_meet
          case rel => exact ⟨by rw [decide_eq_true (And.intro h1 h2)], rfl⟩
        · obtain rfl : k = 10 := by omega
          go_wp2
          go_meet
          case rel => exact ⟨by rw [decide_eq_false (fun h => h2 h.2)], rfl⟩
      · have h1i : ¬ (k : Int) < (L.length : Int) := by omega
        go_wp2
        go_meet
        case rel => exact ⟨by rw [decide_eq_false (fun h => h1 h.1)], rfl⟩
    obtain ⟨hs17, hw17⟩ := hcut
    subst hs17 hw17
    by_cases hgo : k < L.length ∧ k < 10
    · rw [decide_eq_true hgo]
      obtain ⟨hk1, hk2⟩ := hgo
      have hki : (k : Int) < (L.length : Int) := by omega
      have hki2 : (k : Int) < 10 := by omega
      have hk0 : (0 : Int) ≤ (k : Int) := by omega
      have HA := (show Hid (k ≤ L.length ∧ k ≤ 10 ∧ k < L.length) from ⟨hkl, hk10, hk1⟩)
      rcases HW.out.1 with hnil | ⟨g, off, rfl, hg, hq⟩
      · rw [hnil] at hk1; simp at hk1
      have hbw := hpg.out.bl
      obtain ⟨ha, hc, hba, hbc, c0, c1, c2, c3, hH, hB⟩ := hq k hk1
      have hql := HL.out L[k] (List.getElem_mem _)
      obtain ⟨q, hqq⟩ : ∃ q, q = L[k] := ⟨_, rfl⟩
      rw [← hqq] at c0 c1 c2 c3 hH hB hql
      have cc : ∀ (j : Nat) (v : Value), w.cell? ⟨g, j, none⟩ = some v → wr.cell? ⟨g, j, none⟩ = some v := fun j v h => (hbw.cell (p := ⟨g, j, none⟩) hg).trans h
      replace c0 := cc _ _ c0
      replace c1 := cc _ _ c1
      replace c2 := cc _ _ c2
      replace c3 := cc _ _ c3
      have K1 := (show Hid _ from refPrint_any q.m q.t q.hs q.b ha hc hba hbc wr (hH.below hbw (Nat.le_refl _)) (hB.below hbw (Nat.le_refl _)) hql.1 hql.2)
      have HPl : Hid ((printL q.m q.t q.hs q.b).length ≤ 100000000) := hql.1
      clear hH hB hql hqq hq hbw cc hkl hk10
      go_wp2_with fail
      refine Calls.mono K1.out ?_
      rintro e w1 ⟨v1, rfl, hr1, hb1⟩
      have hpg1 := hpg.out.more hb1
      obtain ⟨P, hP⟩ : ∃ P, P = printL q.m q.t q.hs q.b := ⟨_, rfl⟩
      rw [← hP] at hr1 HPl
      obtain ⟨va, vc, rfl, hvc, hvB, hva, hvn⟩ := hr1.slice
      have HV := (show Hid (P.length ≤ vc ∧ Bytes w1 va P) from ⟨hvc, hvB⟩)
      have K2 := (show Hid _ from parseR_any va P vc w1 hvB (by have := HPl.out; omega))
      have HG1 := (show Hid (Pg w w1 A E E _ _) from hpg1)
      obtain ⟨pn, hpn⟩ : ∃ pn, pn = P.length := ⟨_, rfl⟩
      rw [← hpn] at K2 ⊢
      have HPN : Hid (pn = P.length) := hpn
      clear hpn
      clear K1 hP hr1 hb1 hvc hvB hva hvn hpg1 c0 c1 c2 c3
      go_wp2_with fail
      refine Calls.mono K2.out ?_
      rintro e w2 ⟨T, rfl, hT, hb2⟩
      have HG2 := (show Hid (Pg w w2 A E E _ _) from HG1.out.more hb2)
      obtain ⟨D, hD⟩ : ∃ D, D = parseL P := ⟨_, rfl⟩
      rw [← hD] at hT
      have HD : Hid (D = parseL P) := hD
      clear hD K2
      cases D with
      | more =>
        obtain rfl : T = moreT := hT
        simp only [Tl.v, moreT]
        go_wp2_with fail
        go_roundw
        case rel => exact ⟨k + 1, E, A, by have := HA.out; omega, by omega, by go_num, ⟨hp.out.1, by have := hp.out; omega, by have := hp.out; omega⟩, HG2.out.more ((Below.refl _ _).alloc (Nat.le_refl _) _)⟩
        case measure => simp [intOf]; omega
      | bad er =>
        obtain rfl : T = badT er := hT
        simp only [Tl.v, badT]
        go_wp2_with fail
        go_roundw
        case rel => exact ⟨k + 1, E, A, by have := HA.out; omega, by omega, by go_num, ⟨hp.out.1, by have := hp.out; omega, by have := hp.out; omega⟩, HG2.out.more ((Below.refl _ _).alloc (Nat.le_refl _) _)⟩
        case measure => simp [intOf]; omega
      | done u m2 t2 hs2 b2 cl co =>
        obtain ⟨ya, yc, yb, ye, rfl, hy1, hy2, hy3, hy4⟩ := hT
        simp only [Tl.v]
        by_cases hu : u = pn
        · subst hu
          by_cases h5 : u < 5000
          · have H5 : Hid (u < 5000) := h5
            have h5i : (u : Int) < 5000 := by omega
            have HPN2 : Hid (u = P.length) := HPN.out
            obtain ⟨X, hX⟩ : ∃ X : Ent, X = ⟨⟨m2, t2, hs2, b2⟩, ya, yc, yb, ye⟩ := ⟨_, rfl⟩
            have HX : Hid (X = ⟨⟨m2, t2, hs2, b2⟩, ya, yc, yb, ye⟩) := hX
            have HG3 := (show Hid (Pg w w2 A E (E ++ [X]) _ _) from HG1.out.entry hb2 X (by rw [hX]; exact hy1) (by rw [hX]; exact hy2) (by rw [hX]; exact hy3) (by rw [hX]; exact hy4))
            have HBv := (show Hid (Bytes w2 va P) from HV.out.2.below hb2 (Nat.le_refl _))
            clear hX hy1 hy2 hy3 hy4 hb2
            go_upto_region 9 with fail
            obtain ⟨W4, hW4⟩ : ∃ W4, W4 = w2.alloc (.cells #[.int .i64 2, .int .i64 (u : Int), .string ⟨m2.toArray⟩, .string ⟨t2.toArray⟩, .slice ya hs2.length yc, .slice yb b2.length ye, .int .i64 0, .bool cl, .bool co] 34) := ⟨_, rfl⟩
            rw [← hW4]
            obtain ⟨N, hN⟩ : ∃ N, N = w2.heap.size := ⟨_, rfl⟩
            rw [← hN]
            have nN : W4.heap[N]? = some (.cells #[.int .i64 2, .int .i64 (u : Int), .string ⟨m2.toArray⟩, .string ⟨t2.toArray⟩, .slice ya hs2.length yc, .slice yb b2.length ye, .int .i64 0, .bool cl, .bool co] 34 (0, 0)) := by rw [hW4, hN]; exact heap_alloc_new w2 _
            have hb24 : Below w2.heap.size w2 W4 := by rw [hW4]; exact (Below.refl _ _).alloc (Nat.le_refl _) _
            have HG4 := (show Hid (Pg w W4 A E (E ++ [X]) u3 u4) from HG3.out.more hb24)
            have HB4 := (show Hid (Bytes W4 va P) from HBv.out.below hb24 (Nat.le_refl _))
            have HNE := (show Hid (∀ j, u3.ownBlock = some j → ¬ j = N) from fun j hj e => by have := (HG3.out.lt j (.inl hj)).2; omega)
            have HN4 := (show Hid _ from nN)
            clear hW4 hN hb24 nN HG3 HBv HG1 HG2 HV h5
            go_upto_region 10 with (at_builtin; refine wpList_rw_allK rfl (.tmp 42) (.tmp 43) rfl w.heap.size u3 A rfl HG4.out.a va P u vc rfl HPN.out HB4.out (by have := hp.out; omega) (by omega) HG4.out.bl.size ?_; intro v5 w5 hk5; have HG5 := (show Hid (Pg w w5 (A ++ P) E (E ++ [X]) v5 u4) from HG4.out.stepA hk5); have n5 := keep_blk HN4.out (Md.ofGrown hk5.grown) (fun e => HNE.out _ e rfl); obtain ⟨z0, z1, z2, z3, z4, z5⟩ := nine_p n5; clear n5 hk5)
            obtain ⟨i0, hi, hz0, hz1, hz2⟩ := info_parts info25
            have HI := (show Hid (Tryz.prog.info? 25 = some i0 ∧ _ ∧ _ ∧ _) from ⟨hi, hz0, hz1, hz2⟩)
            clear hi hz0 hz1 hz2
            go_wp2_with (at_builtin; refine wpList_append_own2 rfl (.tmp 45) (.tmp 48) 38 rfl w.heap.size 25 i0 _ 4 80 Tryz.underlying38 HI.out.1 HI.out.2.1 HI.out.2.2.1 HI.out.2.2.2 rfl (by omega) u4 E.length (entC E) rfl (HG5.out.more ((Below.refl _ _).alloc (Nat.le_refl _) _)).o ⟨w5.heap.size, 0, none⟩ 1 1 (ent4 X) rfl rfl (by rw [HX.out]; exact cell_four_new _ _ _ _ _ _) (ent_one X) (by have := hp.out; unfold maxLen; omega) (by have := hp.out; omega) (HG5.out.more ((Below.refl _ _).alloc (Nat.le_refl _) _)).bl.size ?_; intro v7 w7 ho7 hg7 hp7; have HG7 := (show Hid (Pg w w7 (A ++ P) (E ++ [X]) (E ++ [X]) v5 v7) from (HG5.out.more ((Below.refl _ _).alloc (Nat.le_refl _) _)).stepO ho7 hg7 hp7); clear ho7 hg7 hp7)
            go_roundw
            case rel => exact ⟨k + 1, E ++ [X], A ++ P, by have := HA.out; omega, by omega, by go_num, ⟨pip_snoc (cl := cl) (co := co) (by rw [HX.out, ← HPN.out]; exact HD.out.symm) hp.out.1, by rw [List.length_append, ← HPN.out]; have := hp.out; have := H5.out; omega, by rw [List.length_append]; have := hp.out; simp only [List.length_cons, List.length_nil]; omega⟩, HG7.out⟩
            case measure => simp [intOf]; omega
          · have hu3 : ¬ (u : Int) < 5000 := by omega
            clear hy1 hy2 hy3 hy4
            go_wp2_with fail
            go_roundw
            case rel => exact ⟨k + 1, E, A, by have := HA.out; omega, by omega, by go_num, ⟨hp.out.1, by have := hp.out; omega, by have := hp.out; omega⟩, HG2.out.more ((Below.refl _ _).alloc (Nat.le_refl _) _)⟩
            case measure => simp [intOf]; omega
        · have hu4 : ¬ (u : Int) = (pn : Int) := by omega
          clear hu hy1 hy2 hy3 hy4
          go_wp2_with fail
          go_roundw
          case rel => exact ⟨k + 1, E, A, by have := HA.out; omega, by omega, by go_num, ⟨hp.out.1, by have := hp.out; omega, by have := hp.out; omega⟩, HG2.out.more ((Below.refl _ _).alloc (Nat.le_refl _) _)⟩
          case measure => simp [intOf]; omega
    · rw [decide_eq_false hgo]
      obtain ⟨W0, hW0⟩ : ∃ W0, W0 = wr := ⟨_, rfl⟩
      subst hW0
      have hgx := hpg.out
      obtain ⟨ba0, bc0, rfl, hb1, hb2, hb3, hb4⟩ := hgx.a.slice
      obtain ⟨oa, oc, rfl⟩ := own_slice hgx.o
      have HS := (show Hid (A.length ≤ bc0 ∧ Bytes W0 ba0 A ∧ (∀ x, ba0 = some x → x.spot = none ∧ x.block < W0.heap.size) ∧ (ba0 = none → bc0 = 0)) from ⟨hb1, hb2, hb3, hb4⟩)
      have HA10 := (show Hid (A.length ≤ 50000) from by have := hp.out; show _ ≤ _; omega)
      have HWR := (show Hid (Below w.heap.size w W0) from hgx.bl)
      have hE := (show Hid (E.length ≤ 10) from by have := hp.out; show _ ≤ _; omega)
      clear hb1 hb2 hb3 hb4 hgx
      clear hgo hkl hk10
      go_wp2_with fail
      go_loopw [3, 8] (fun v i wr => ∃ (j : Nat) (B : List UInt8) (ba : Option Addr) (bc : Nat), j ≤ E.length ∧ i = .int .i64 j ∧ v = .slice ba B.length bc ∧ Hid (Pip B (E.drop j)) ∧ Hid (B.length ≤ 50000 ∧ B.length ≤ bc ∧ Bytes wr ba B ∧ (∀ x, ba = some x → x.spot = none ∧ x.block < W0.heap.size) ∧ (ba = none → bc = 0) ∧ Below W0.heap.size W0 wr)) (fun _ i _ => E.length - (intOf i).toNat)
      case atStart => exact ⟨0, A, ba0, bc0, Nat.zero_le _, rfl, rfl, hp.out.1, ⟨HA10.out, HS.out.1, HS.out.2.1, HS.out.2.2.1, HS.out.2.2.2, Below.refl _ _⟩⟩
      case round =>
        obtain ⟨j, B, ba, bc, hj, rfl, rfl, hpp, hbb⟩ := hrel
        have HBW := (show Hid (Below w.heap.size w wr) from HWR.out.trans (hbb.out.2.2.2.2.2.mono HWR.out.size))
        by_cases hlt : j < E.length
        · have hji : (j : Int) < (E.length : Int) := by omega
          have hj9 : (j : Int) < 1000 := by have := hE.out; omega
          have hj0 : (0 : Int) ≤ (j : Int) := by omega
          obtain ⟨g2, oc2, hov, hg2, d0, d1, d2, d3⟩ := hpg.out.get hlt
          have hoe : oa = some ⟨g2, 0, none⟩ ∧ oc = oc2 := by simpa using hov
          obtain ⟨rfl, rfl⟩ := hoe
          have hx := hpg.out.e E[j] (List.getElem_mem _)
          have hpp2 := hpp.out
          rw [List.drop_eq_getElem_cons hlt] at hpp2
          obtain ⟨x, hxx⟩ : ∃ x, x = E[j] := ⟨_, rfl⟩
          rw [← hxx] at d0 d1 d2 d3 hx hpp2
          obtain ⟨P, B', cl, co, hBe, hpar, hrest⟩ := hpp2
          have hparB : parseL B = .done P.length x.r.m x.r.t x.r.hs x.r.b cl co := by rw [hBe]; exact parse_more B' (by intro h; cases h) hpar
          have hu0 := pip_used hpar
          have hul : P.length ≤ B.length := by rw [hBe]; simp
          have hdrop : B.drop P.length = B' := by rw [hBe]; simp
          have hroom := parse_room hpar
          have K6 := (show Hid _ from parse_any ba B bc wr hbb.out.2.1 hbb.out.2.2.1 (fun y hy => ⟨(hbb.out.2.2.2.1 y hy).1, Nat.lt_of_lt_of_le (hbb.out.2.2.2.1 y hy).2 hbb.out.2.2.2.2.2.size⟩) hbb.out.2.2.2.2.1 (by have := hbb.out.1; omega) (HW.out.2.1.below HBW.out (Nat.le_refl _)) (HW.out.2.2.below HBW.out (Nat.le_refl _)))
          rw [hparB] at K6
          obtain ⟨u, hu⟩ : ∃ u, u = P.length := ⟨_, rfl⟩
          rw [← hu] at K6 hu0 hul hdrop hroom
          have HREST := (show Hid (Pip (B.drop u) (E.drop (j + 1))) from by show Pip _ _; rw [hdrop]; exact hrest)
          have HHS := (show Hid (x.r.hs.length ≤ 1000000000) from by have := hbb.out.1; show _ ≤ _; omega)
          have HD := (show Hid (∀ W, Below wr.heap.size wr W → (W.cell? ⟨g2, j * 4, none⟩ = some (.string ⟨x.r.m.toArray⟩) ∧ W.cell? ⟨g2, j * 4 + 1, none⟩ = some (.string ⟨x.r.t.toArray⟩) ∧ W.cell? ⟨g2, j * 4 + 2, none⟩ = some (.slice x.a x.r.hs.length x.c) ∧ W.cell? ⟨g2, j * 4 + 3, none⟩ = some (.slice x.ba x.r.b.length x.bc)) ∧ Hdrs W x.a x.r.hs ∧ Bytes W x.ba x.r.b) from fun W hW => by
            have hb : Below W0.heap.size W0 W := hbb.out.2.2.2.2.2.trans (hW.mono hbb.out.2.2.2.2.2.size)
            exact ⟨⟨(hb.cell (p := ⟨g2, j * 4, none⟩) hg2).trans d0, (hb.cell (p := ⟨g2, j * 4 + 1, none⟩) hg2).trans d1, (hb.cell (p := ⟨g2, j * 4 + 2, none⟩) hg2).trans d2, (hb.cell (p := ⟨g2, j * 4 + 3, none⟩) hg2).trans d3⟩, hx.1.below hb (Nat.le_refl _), hx.2.1.below hb (Nat.le_refl _)⟩)
          have HG2 : Hid (g2 < W0.heap.size) := hg2
          clear hpp hxx hBe hpar hrest hparB hu hdrop hroom d0 d1 d2 d3 hx hg2 hov
          have hu1i : decide ((u : Int) < 1) = false := by rw [decide_eq_false_iff_not]; omega
          have hu2i : decide ((B.length : Int) < (u : Int)) = false := by rw [decide_eq_false_iff_not]; omega
          have HU := (show Hid (0 < u ∧ u ≤ B.length) from ⟨hu0, hul⟩)
          clear hu0 hul
          go_wp2_with fail
          refine Calls.mono K6.out ?_
          rintro e w5 ⟨T, rfl, hT, hb5⟩
          obtain ⟨za, zc, zb, ze, rfl, hz1, hz2, -, -⟩ := hT.tb
          simp only [Tl.v]
          clear hT K6
          go_upto_region 15 with fail
          obtain ⟨W9, hW9⟩ : ∃ W9, W9 = w5.alloc (.cells #[.int .i64 2, .int .i64 (u : Int), .string ⟨x.r.m.toArray⟩, .string ⟨x.r.t.toArray⟩, .slice za x.r.hs.length zc, .slice zb x.r.b.length ze, .int .i64 0, .bool cl, .bool co] 28) := ⟨_, rfl⟩
          rw [← hW9]
          obtain ⟨M9, hM9⟩ : ∃ M9, M9 = w5.heap.size := ⟨_, rfl⟩
          rw [← hM9]
          have n9 : W9.heap[M9]? = some (.cells #[.int .i64 2, .int .i64 (u : Int), .string ⟨x.r.m.toArray⟩, .string ⟨x.r.t.toArray⟩, .slice za x.r.hs.length zc, .slice zb x.r.b.length ze, .int .i64 0, .bool cl, .bool co] 28 (0, 0)) := by rw [hW9, hM9]; exact heap_alloc_new w5 _
          have hb59 : Below w5.heap.size w5 W9 := by rw [hW9]; exact (Below.refl _ _).alloc (Nat.le_refl _) _
          have hb29 : Below wr.heap.size wr W9 := hb5.trans (hb59.mono hb5.size)
          obtain ⟨⟨d0, d1, d2, d3⟩, hH9, hY9⟩ := HD.out W9 hb29
          obtain ⟨s0, s1, s2, s3, s4, s5⟩ := nine_p n9
          have HN9 := (show Hid _ from n9)
          have HB9 := (show Hid (Below wr.heap.size wr W9) from hb29)
          have hz1' := hz1.below hb59 (Nat.le_refl _)
          have hz2' := hz2.below hb59 (Nat.le_refl _)
          have SM := (show Hid (∀ W1, Below W9.heap.size W9 W1 → Calls Tryz.prog 11 #[rqV x.r.m x.r.t (.slice za x.r.hs.length zc) (.slice zb x.r.b.length ze), rqV x.r.m x.r.t (.slice x.a x.r.hs.length x.c) (.slice x.ba x.r.b.length x.bc)] W1 fun e w' => e = .returned (.bool true) ∧ Below W9.heap.size W9 w') from fun W1 hq => (same_any x.r.m x.r.t x.r.hs x.r.b za x.a zc x.c zb x.ba ze x.bc W1 (hz1'.below hq (Nat.le_refl _)) (hH9.below hq (Nat.le_refl _)) (hz2'.below hq (Nat.le_refl _)) (hY9.below hq (Nat.le_refl _)) HHS.out).mono fun e w' ⟨h1, h2⟩ => ⟨h1, hq.trans (h2.mono hq.size)⟩)
          unfold rqV at SM
          clear hW9 hM9 n9 hb59 hb29 hz1 hz2 hz1' hz2' hH9 hY9 hb5
          go_region_with (go_at_call 11; (with_reducible refine Calls.mono (SM.out _ ((Below.refl _ W9).drew)) ?_); rintro e w10 ⟨rfl, hb10⟩; have n10 := (hb10.block M9 (blk_lt HN9.out)).trans HN9.out; obtain ⟨t0, t1, t2, t3, t4, t5⟩ := nine_p n10; have HB10 := (show Hid (Below wr.heap.size wr w10) from HB9.out.trans (hb10.mono HB9.out.size)); clear hb10 n10)
          all_goals
            have hub : (u : Int) ≤ (B.length : Int) := by have := HU.out; omega
            have hu0 : (0 : Int) ≤ (u : Int) := by omega
            have hbc : (B.length : Int) ≤ (bc : Int) := by have := hbb.out.2.1; omega
            go_wp2_with fail
            all_goals
              go_roundw
              case rel => exact ⟨j + 1, B.drop u, fromA ba bc u, bc - u, by omega, by go_num, (by simp only [List.length_drop, fromA]; try (split <;> simp_all)), HREST.out, ⟨by rw [List.length_drop]; have := hbb.out.1; omega, by rw [List.length_drop]; have := hbb.out.2.1; omega, bytes_from (hbb.out.2.2.1.below HB10.out (Nat.le_refl _)) hbb.out.2.1, from_lo hbb.out.2.2.2.1, from_nil hbb.out.2.2.2.2.1, hbb.out.2.2.2.2.2.trans (HB10.out.mono hbb.out.2.2.2.2.2.size)⟩⟩
              case measure => simp [intOf]; omega
        · obtain rfl : j = E.length := by omega
          have hpe := hpp.out
          rw [List.drop_length] at hpe
          obtain rfl : B = [] := hpe
          have K9 := (show Hid _ from parse_any none [] 0 wr (Nat.le_refl _) (.inl rfl) (fun x hx => by cases hx) (fun _ => rfl) (by simp) (HW.out.2.1.below HBW.out (Nat.le_refl _)) (HW.out.2.2.below HBW.out (Nat.le_refl _)))
          clear hpp hlt
          go_wp2_with fail
          refine Calls.mono K9.out ?_
          rintro e w5 ⟨T, rfl, hT, hb5⟩
          obtain rfl : T = moreT := hT
          simp only [Tl.v, moreT]
          have hfk := field_kind w5
          have AW5 := (show Hid _ from AW.out w5 (HBW.out.trans (hb5.mono HBW.out.size)))
          clear K9 hb5
          go_wp2_with (go_at_call 9; refine Calls.mono AW5.out ?_; rintro e w9 ⟨rfl, hb9⟩)
          go_ret
          exact ⟨rfl, hb9⟩
end Go.Proofs.YtmodmeabjhaklabGreatDoor
