/-
  The walk of the statement EncLent out of the contracts of what it calls.
-/
import Derived.Test.YtbbjkdnebgeioaaLawPacks
import Derived.Test.YtbbjkdnebgeioaaRound
import Derived.Test.YtbbjkdnebgeioaaHex
import Derived.Laws.AppendOwnNone
namespace Go.Proofs.Ytbbjkdnebgeioaa
open Go.RowKit

theorem row_some {w : World} {base : Nat} {e : TypeId} {x : Option Addr} {n c : Nat} {xs : List Value} (h : w.ownsRow base e 1 (.slice x n c) n xs) (hn : 0 < n) : ∃ g, x = some ⟨g, 0, none⟩ ∧ base ≤ g ∧ g < w.heap.size := by
  have hlt := World.ownsRow.lt h
  rcases h.2 with ⟨_, h'⟩ | ⟨g, cap, cur, hv, hb, hh, _⟩
  · omega
  · simp only [Value.slice.injEq] at hv
    obtain ⟨rfl, _, _⟩ := hv
    exact ⟨g, rfl, hlt g rfl⟩
theorem row_cell {w : World} {base : Nat} {e : TypeId} {g n c k : Nat} {xs : List Value} (h : w.ownsRow base e 1 (.slice (some ⟨g, 0, none⟩) n c) n xs) (hk : k < n) : ∃ u, w.cell? ⟨g, k, none⟩ = some u := by
  have hl := h.1
  rw [h.cellAt k (by omega)]
  exact ⟨xs[k]'(by omega), List.getElem?_eq_getElem (by omega)⟩

/-- 'append(out, xs...)', out the call's own, xs whatever slice of bytes (nil, too). -/
theorem wpList_append_bytes {w : World} {ops : Array Oper} {rest : List Oper} {o : Oper} {a : Act} {Q : Exit → Act → World → Prop} (hgd : o.guard = none) (s x : Operand)
    (ho : o.op = .call { callee := .builtin .append, args := #[s, x], argTypes := #[22, 22] })
    (base : Nat) (v : Value) (l : List UInt8) (hs : a.eval s = v) (hown : Own w base v l)
    (xa : Option Addr) (m : List UInt8) (c : Nat) (hx : a.eval x = .slice xa m.length c) (hm : Bytes w xa m) (hc : xa = none → c = 0) (hbytes : l.length + m.length ≤ 140737488355328) (hbase : base ≤ w.heap.size)
    (h : ∀ v' w', Own w' base v' (l ++ m) → w.grownBy w' v.ownBlock → wpList Try.prog ops Q rest (a.put o.dst v') w') : wpList Try.prog ops Q (o :: rest) a w := by
  obtain ⟨i0, hi, hz0, hz1, hz2⟩ := info_parts info5
  cases xa with
  | none =>
    obtain rfl : m = [] := by rcases hm with h | ⟨_, _, he, _⟩; exact h; simp at he
    obtain rfl := hc rfl
    refine wpList_append_own_none hgd s x 22 ho base 5 i0 1 Try.underlying22 hi v l.length (bcs l) hs hown hx ?_
    exact h v w (by rw [List.append_nil]; exact hown) (World.grownBy.refl _ _)
  | some ad =>
    refine wpList_append_own w hgd s x 22 ho base 5 i0 (.int .u8 0) 1 1 Try.underlying22 hi hz0 hz1 hz2 rfl (by decide) v l.length (bcs l) hs hown ad m.length c (bcs m) hx (by rw [bcs_length, Nat.mul_one]) ?_ (bcs_one _) (by unfold maxLen; omega) (by omega) hbase ?_
    · intro j u hj
      rcases hm with rfl | ⟨b, off, he, _, hcs⟩
      · simp [bcs] at hj
      · simp only [Option.some.injEq] at he
        subst he
        have hj' : j < m.length := by
          have := (List.getElem?_eq_some_iff.1 hj).1
          rwa [bcs_length] at this
        rw [Addr.add_lit, hcs j hj', ← hj, bcs_get hj']
    · intro v' w' h1 h2 _
      refine h v' w' ?_ h2
      unfold Own
      rw [List.length_append, bcs_append]
      exact h1
theorem Own.bytes' {w : World} {base : Nat} {v : Value} {l : List UInt8} (h : Own w base v l) : ∃ a cap, v = .slice a l.length cap ∧ Bytes w a l ∧ (a = none → cap = 0) ∧ l.length ≤ cap := by
  obtain ⟨a, cap, rfl, hb⟩ := h.bytes
  refine ⟨a, cap, rfl, hb, ?_, ?_⟩
  · rintro rfl
    rcases h.2 with ⟨h', _⟩ | ⟨g, c, cur, h', _⟩
    · simp only [Value.slice.injEq] at h'
      exact h'.2.2
    · simp at h'
  · rcases h.2 with ⟨h', h0⟩ | ⟨g, c, cur, h', _, _, hn, _⟩
    · omega
    · simp only [Value.slice.injEq] at h'
      omega

theorem ownS_later {w w1 : World} {base B : Nat} {v : Value} {L : List ByteArray} (h : OwnS w base v L) (hb : Below B w w1) (hB : w.heap.size ≤ B) : OwnS w1 base v L := by
  have hlt2 := World.ownsRow.lt h
  obtain ⟨q0, ⟨q1, q2⟩ | ⟨g, c', cur, q1, q2, q3, q4⟩⟩ := h
  · exact ⟨q0, .inl ⟨q1, q2⟩⟩
  · refine ⟨q0, .inr ⟨g, c', cur, q1, q2, ?_, q4⟩⟩
    rw [hb.block g (by have := (hlt2 g (by rw [q1]; rfl)).2; omega)]
    exact q3
theorem row_later {w w1 : World} {base B : Nat} {e : TypeId} {v : Value} {n : Nat} {xs : List Value} (h : w.ownsRow base e 1 v n xs) (hb : Below B w w1) (hB : w.heap.size ≤ B) : w1.ownsRow base e 1 v n xs := by
  have hlt2 := World.ownsRow.lt h
  obtain ⟨q0, ⟨q1, q2⟩ | ⟨g, c', cur, q1, q2, q3, q4⟩⟩ := h
  · exact ⟨q0, .inl ⟨q1, q2⟩⟩
  · refine ⟨q0, .inr ⟨g, c', cur, q1, q2, ?_, q4⟩⟩
    rw [hb.block g (by have := (hlt2 g (by rw [q1]; rfl)).2; omega)]
    exact q3
theorem grown_trans {w a b : World} {r : Option Nat} (h : w.grownBy a r) (k : a.grownBy b r) : w.grownBy b r :=
  ⟨k.os.trans h.os, k.tape.trans h.tape, k.output.trans h.output, Nat.le_trans h.size k.size, fun i hi hn => (k.block i (by have := h.size; omega) hn).trans (h.block i hi hn)⟩
theorem prefix_bytes {w : World} {base g n c : Nat} {l : List UInt8} {u : Value} (hn : l.length = n) (h : w.ownsRow base 5 1 (.slice (some ⟨g, 0, none⟩) (n + 1) c) (n + 1) (bcs l ++ [u])) : Bytes w (some ⟨g, 0, none⟩) l := by
  have hlt := (World.ownsRow.lt h g rfl).2
  refine .inr ⟨g, 0, rfl, hlt, fun j hj => ?_⟩
  rw [Nat.zero_add, h.cellAt j (by omega), List.getElem?_append_left (by rw [bcs_length]; exact hj), bcs_get hj]
theorem bcs_set (us : List UInt8) (k : Nat) (c : UInt8) : bcs (us.set k c) = (bcs us).set k (.int .u8 (c.toNat : Int)) := by
  simp [bcs, List.map_set]

set_option maxHeartbeats 8000000 in
theorem encLent_walk (a2 : Option Addr) (l : List UInt8) (cap2 : Nat) (a : Option Addr) (L : List ByteArray) (cap : Nat) (w : World) (hL : tot L ≤ 8388608) (hl : l.length ≤ 8388608) (hs : Strs w a L) (hb : Bytes w a2 l) :
    Calls Try.prog 6 #[.slice a2 l.length cap2, .slice a L.length cap] w fun e w' => e = .returned (.bool true) ∧ Below w.heap.size w w' := by
  have hup := uL_pack (L := L) fun s h => by have := tot_mem h; omega
  have HU : Hid (uL (packL L) = L ∧ uOk (packL L) = true) := hup
  have HP : Hid ((packL L).length = tot L) := packL_length L
  have hPl : (packL L).length ≤ 8388608 := by rw [HP.out]; exact hL
  clear hup
  go_enter Try.func6, Try.ntmps6
  go_wp2_with fail
  refine (pack_any a L cap _ (by omega) hs).mono ?_
  rintro e w1 ⟨vp, rfl, hop, hb1⟩
  obtain ⟨xp, cp, rfl, hxp, hcp, hlp⟩ := hop.bytes'
  have HXP : Hid (Bytes w1 xp (packL L)) := hxp
  have HCP : Hid (xp = none → cp = 0) := hcp
  clear hxp hcp hop hlp
  have s1 := hs.below hb1 (Nat.le_refl _)
  go_wp2_with fail
  refine (pack_any a L cap _ (by omega) s1).mono ?_
  rintro e w2 ⟨vq, rfl, hoq, hb2⟩
  obtain ⟨xq, cq, rfl, _, _, _⟩ := hoq.bytes'
  go_wp2_with fail
  go_loopw [7] (fun i wr => ∃ (k : Nat) (xs : List Value), k ≤ (packL L).length ∧ i = .int .i64 k ∧ wr.ownsRow w1.heap.size 5 1 (.slice xq (packL L).length cq) (packL L).length xs ∧ Below w1.heap.size w1 wr)
    (fun i _ => (packL L).length - (intOf i).toNat)
  case atStart => exact ⟨0, _, Nat.zero_le _, rfl, hoq, hb2⟩
  case round =>
    obtain ⟨k, xs, hk, rfl, hown, hnx⟩ := hrel
    clear hoq hb2
    by_cases hlt : k < (packL L).length
    · obtain ⟨g, rfl, hg, hgs⟩ := row_some hown (by omega)
      obtain ⟨u, hc⟩ := row_cell hown hlt
      have hf := hown.frozenAt k
      have hst := hown.stored k (.int .u8 7)
      have HS : Hid _ := hst
      clear hst
      go_wp2
      go_roundw
      case rel => exact ⟨k + 1, _, by omega, by go_num, HS.out.1, hnx.setCell (p := ⟨g, k, none⟩) hg _⟩
      case measure => simp [intOf]; omega
    · clear hown
      obtain ⟨w3, e3⟩ : ∃ x, x = wr := ⟨_, rfl⟩
      subst e3
      have hz3 := hnx.size
      have hO0 : Own (w3.alloc (.cells #[] 5)) w3.heap.size (.slice (some ⟨w3.heap.size, 0, none⟩) 0 0) [] := World.ownsRow_lit w3 #[] 0 (Nat.le_refl _) (by decide) rfl
      have hBp : Bytes (w3.alloc (.cells #[] 5)) xp (packL L) := HXP.out.below (hnx.alloc hz3 _) (Nat.le_refl _)
      go_wp2_with (at_builtin; refine wpList_append_bytes rfl (.tmp 31) (.tmp 32) rfl w3.heap.size _ [] rfl hO0 xp (packL L) cp rfl hBp HCP.out ?c1 ?c2 ?_)
      case c1 => simp only [List.length_nil]; omega
      case c2 => simp
      intro v4 w4 hO4 hG4
      have hB4 : Below w3.heap.size w3 w4 := ((Below.refl _ w3).alloc (Nat.le_refl _) _).grown hG4 (by simp) (by intro j hj; simp [Value.ownBlock] at hj; omega)
      have hz4 := hB4.size
      clear hO0 hBp hG4
      obtain ⟨i0, hi, hi0, hi1, hi2⟩ := info_parts info5
      have hO4' : w4.ownsRow w3.heap.size 5 1 v4 ([] ++ packL L).length (bcs ([] ++ packL L)) := hO4
      rw [List.nil_append] at hO4'
      clear hO4
      go_wp2_with (at_builtin; refine wpList_append_own _ rfl (.tmp 33) (.tmp 34) 22 rfl w3.heap.size 5 i0 (.int .u8 0) 1 1 Try.underlying22 hi hi0 hi1 hi2 rfl (by decide) _ _ _ rfl (hO4'.alloc _) ⟨w4.heap.size, 0, none⟩ 1 1 [.int .u8 77] rfl rfl ?d1 ?d2 ?d3 ?d4 ?d5 ?_)
      case d1 => exact cell_one_new _ _ _
      case d2 => exact one_one _ rfl
      case d3 => unfold maxLen; omega
      case d4 => omega
      case d5 => simp; omega
      intro v5 w5 hO5 hG5 _
      have hB5 : Below w3.heap.size w3 w5 := (hB4.alloc hz4 _).grown hG5 (by simp; omega) (fun j hj => (hO4'.lt j hj).1)
      obtain ⟨xo, co, ho5⟩ : ∃ xo co, v5 = .slice xo ((packL L).length + 1) co ∧ (packL L).length + 1 ≤ co := by
        rcases hO5.2 with ⟨_, h'⟩ | ⟨g, c', cur, h', _, _, hn, _⟩
        · omega
        · exact ⟨_, c', h', hn⟩
      obtain ⟨rfl, hco⟩ := ho5
      obtain ⟨g, rfl, hgo, hgs⟩ := row_some hO5 (by omega)
      clear hB4 hG5 hO4' hz4
      have hbO : Bytes w5 (some ⟨g, 0, none⟩) (packL L) := prefix_bytes rfl hO5
      have hok : uOk (packL L) = true := HU.out.2
      have hz5 := hB5.size
      go_wp2_with fail
      refine (unpack_any _ (packL L) co _ hPl (by omega) hbO).mono ?_
      rintro e w6 ⟨vx, rfl, hox, hb6⟩
      rw [HU.out.1] at hox
      obtain ⟨xx, cx, rfl, _⟩ := hox.strs
      have hbO6 := hbO.below hb6 (Nat.le_refl _)
      have hO6 := row_later hO5 hb6 (Nat.le_refl _)
      clear hbO hO5
      go_wp2_with fail
      refine (unpack_any _ (packL L) co _ hPl (by omega) hbO6).mono ?_
      rintro e w7 ⟨vy, rfl, hoy, hb7⟩
      rw [HU.out.1] at hoy
      obtain ⟨xy, cy, rfl, _⟩ := hoy.strs
      have hLl : L.length ≤ 8388608 := by have := uL_len (packL L); rw [HU.out.1] at this; omega
      clear hbO6
      go_wp2_with fail
      go_loopw [13] (fun i wq => ∃ (k : Nat) (xs : List Value), k ≤ L.length ∧ i = .int .i64 k ∧ wq.ownsRow w6.heap.size 9 1 (.slice xy L.length cy) L.length xs ∧ Below w6.heap.size w6 wq)
        (fun i _ => L.length - (intOf i).toNat)
      case atStart => exact ⟨0, _, Nat.zero_le _, rfl, hoy, hb7⟩
      case round =>
        obtain ⟨k2, xs2, hk2, rfl, hown2, hnx2⟩ := hrel
        clear hoy hb7
        by_cases hlt2 : k2 < L.length
        · obtain ⟨gy, rfl, hgy, hgys⟩ := row_some hown2 (by omega)
          obtain ⟨u, hc⟩ := row_cell hown2 hlt2
          have hf := hown2.frozenAt k2
          have HS : Hid _ := hown2.stored k2 (.string ⟨#[122]⟩)
          clear hown2
          go_wp2
          go_roundw
          case rel => exact ⟨k2 + 1, _, by omega, by go_num, HS.out.1, hnx2.setCell (p := ⟨gy, k2, none⟩) hgy _⟩
          case measure => simp [intOf]; omega
        · clear hown2
          obtain ⟨w8, e8⟩ : ∃ x, x = wr := ⟨_, rfl⟩
          subst e8
          have hO8 := row_later hO6 hnx2 (Nat.le_refl _)
          have hox8 := ownS_later hox hnx2 (Nat.le_refl _)
          have hB8 : Below w3.heap.size w3 w8 := step_below (step_below hB5 hb6 (Nat.le_refl _)) hnx2 (Nat.le_refl _)
          have hgs8 : g < w8.heap.size := by have := hb6.size; have := hnx2.size; omega
          have hz65 := hb6.size
          clear hO6 hox
          go_wp2_with fail
          go_loopw [14] (fun i wq => ∃ (k : Nat) (ys : List Value), k ≤ (packL L).length ∧ i = .int .i64 k ∧ ys.length = (packL L).length ∧ wq.ownsRow w3.heap.size 5 1 (.slice (some ⟨g, 0, none⟩) ((packL L).length + 1) co) ((packL L).length + 1) (ys ++ [.int .u8 77]) ∧ w8.grownBy wq (some g))
            (fun i _ => (packL L).length - (intOf i).toNat)
          case atStart => exact ⟨0, _, Nat.zero_le _, rfl, bcs_length _, hO8, World.grownBy.refl _ _⟩
          case round =>
            obtain ⟨k3, ys, hk3, rfl, hys, hown3, hnx3⟩ := hrel
            have HY : Hid (ys.length = (packL L).length) := hys
            clear hO8 hys
            by_cases hlt3 : k3 < (packL L).length
            · obtain ⟨u, hc⟩ := row_cell hown3 (show k3 < (packL L).length + 1 by omega)
              have hf := hown3.frozenAt k3
              have hst := hown3.stored k3 (.int .u8 0)
              rw [List.set_append_left _ _ (by rw [HY.out]; exact hlt3)] at hst
              have HS : Hid _ := hst
              clear hown3 hst
              have k3' : (k3 : Int) < ((packL L).length : Int) + 1 := by omega
              go_wp2
              go_roundw
              case rel => exact ⟨k3 + 1, _, by omega, by go_num, by rw [List.length_set]; exact HY.out, HS.out.1, grown_trans hnx3 HS.out.2⟩
              case measure => simp [intOf]; omega
            · obtain ⟨w9, e9⟩ : ∃ x, x = wr := ⟨_, rfl⟩
              subst e9
              have h77 : w9.cell? ⟨g, (packL L).length, none⟩ = some (.int .u8 77) := by
                rw [hown3.cellAt _ (by omega), List.getElem?_append_right (by rw [HY.out]; exact Nat.le_refl _), HY.out]
                simp
              have hox9 : OwnS w9 w5.heap.size (.slice xx L.length cx) L := World.ownsRow.kept hox8 hnx3 (by
                by_cases hbk : (Value.slice xx L.length cx).ownBlock = none
                · exact .inl hbk
                · right
                  intro hh
                  have := (World.ownsRow.lt hox8 g hh).1
                  omega)
              have hB9 : Below w3.heap.size w3 w9 := hB8.grown hnx3 (by have := hB8.size; omega) (by intro j hj; simp at hj; omega)
              have hB91 : Below w1.heap.size w1 w9 := step_below hnx hB9 (Nat.le_refl _)
              have hB90 : Below w.heap.size w w9 := step_below hb1 hB91 (Nat.le_refl _)
              have hbl9 := hb.below hB90 (Nat.le_refl _)
              have hgs9 : g < w9.heap.size := by have := hnx3.size; omega
              clear hown3 hnx3 hox8 hB8 hB9
              go_wp2_with fail
              refine (hex_any a2 l cap2 _ (by omega) hbl9).mono ?_
              rintro e w10 ⟨rfl, hb10⟩
              go_wp2_with fail
              refine (unhex_any ⟨(hexL l).toArray⟩ _ (by simp [ByteArray.size, hexL_length]; omega)).mono ?_
              rintro e w11 ⟨vu, rfl, hou, hb11⟩
              obtain ⟨U, hU⟩ : ∃ U, U = uhL (hexL l) := ⟨_, rfl⟩
              have hou' : Own w11 w10.heap.size vu U := by rw [hU]; exact hou
              have hUl : U.length ≤ 8388608 := by
                rw [hU, uhL]
                split
                · rw [prs_length, hexL_length]; omega
                · simp
              clear hou hU
              obtain ⟨xu, cu, rfl, _⟩ := hou'.bytes
              go_wp2_with fail
              go_loopw [17] (fun i wq => ∃ (k : Nat) (us : List UInt8), k ≤ U.length ∧ i = .int .i64 k ∧ us.length = U.length ∧ wq.ownsRow w10.heap.size 5 1 (.slice xu U.length cu) U.length (bcs us) ∧ Below w10.heap.size w10 wq)
                (fun i _ => U.length - (intOf i).toNat)
              case atStart => exact ⟨0, U, Nat.zero_le _, rfl, rfl, hou', hb11⟩
              case round =>
                obtain ⟨k4, us, hk4, rfl, hus, hown4, hnx4⟩ := hrel
                have HUs : Hid (us.length = U.length) := hus
                clear hou' hb11 hus
                by_cases hlt4 : k4 < U.length
                · obtain ⟨gu, rfl, hgu, hgus⟩ := row_some hown4 (by omega)
                  have hku : k4 < us.length := by rw [HUs.out]; exact hlt4
                  have hc : wr.cell? ⟨gu, k4, none⟩ = some (.int .u8 (us[k4].toNat : Int)) := by rw [hown4.cellAt k4 (by omega), bcs_get hku]
                  have hc255 : (us[k4].toNat : Int) ≤ 255 := by have := us[k4].toNat_lt; omega
                  have hf := hown4.frozenAt k4
                  have hst := hown4.stored k4 (.int .u8 ((us[k4] + 1).toNat : Int))
                  rw [← bcs_set] at hst
                  have HV : Hid (((us[k4] + 1).toNat : Int) = ((us[k4].toNat : Int) + 1) % 256) := by show _ = _; rw [UInt8.toNat_add]; simp
                  clear hown4
                  rw [HV.out] at hst
                  have HS2 : Hid _ := hst
                  clear hst
                  go_wp2
                  go_roundw
                  case rel => exact ⟨k4 + 1, us.set k4 (us[k4] + 1), by omega, by go_num, by rw [List.length_set]; exact HUs.out, HS2.out.1, hnx4.setCell (p := ⟨gu, k4, none⟩) hgu _⟩
                  case measure => simp [intOf]; omega
                · clear hown4
                  obtain ⟨w12, e12⟩ : ∃ x, x = wr := ⟨_, rfl⟩
                  subst e12
                  have hB12 : Below w9.heap.size w9 w12 := step_below hb10 hnx4 (Nat.le_refl _)
                  have hx12 : Strs w12 xx L := by
                    obtain ⟨y, c', he, hy⟩ := hox9.strs
                    simp only [Value.slice.injEq] at he
                    obtain ⟨rfl, _, _⟩ := he
                    exact hy.below hB12 (Nat.le_refl _)
                  have hB120 : Below w.heap.size w w12 := step_below hB90 hB12 (Nat.le_refl _)
                  have hB121 : Below w1.heap.size w1 w12 := step_below hB91 hB12 (Nat.le_refl _)
                  have h7712 : w12.cell? ⟨g, (packL L).length, none⟩ = some (.int .u8 77) := (hB12.cell (p := ⟨g, (packL L).length, none⟩) hgs9).trans h77
                  have hgs12 : g < w12.heap.size := by have := hB12.size; omega
                  have hl12 := hs.below hB120 (Nat.le_refl _)
                  clear hB12 hox9 hB90 hB91 h77 hnx4 hb10
                  have heqs : eqS L L = true := by simp [eqS]
                  go_wp2_with fail
                  refine (sameTexts_any xx a L L cx cap _ (by omega) (by omega) hx12 hl12).mono ?_
                  rintro e w13 ⟨rfl, hb13⟩
                  have h7713 : w13.cell? ⟨g, (packL L).length, none⟩ = some (.int .u8 77) := (hb13.cell (p := ⟨g, (packL L).length, none⟩) hgs12).trans h7712
                  have hB130 : Below w.heap.size w w13 := step_below hB120 hb13 (Nat.le_refl _)
                  have hB131 : Below w1.heap.size w1 w13 := step_below hB121 hb13 (Nat.le_refl _)
                  have hl13 := hs.below hB130 (Nat.le_refl _)
                  have k7 : ((packL L).length : Int) < ((packL L).length : Int) + 1 := by omega
                  clear hB120 hB121 hb13 hx12 hl12 h7712
                  go_wp2_with fail
                  refine (refPack_any a L cap _ hL hl13).mono ?_
                  rintro e w14 ⟨v14, rfl, ho14, hb14⟩
                  obtain ⟨x14, c14, rfl, hx14⟩ := ho14.bytes
                  have hB140 : Below w.heap.size w w14 := step_below hB130 hb14 (Nat.le_refl _)
                  have hp14 := HXP.out.below (step_below hB131 hb14 (Nat.le_refl _)) (Nat.le_refl _)
                  clear hB130 hB131 hb14 hl13 ho14 h7713
                  go_wp2_with fail
                  refine (same_any xp x14 _ _ cp c14 _ hp14 hx14).mono ?_
                  rintro e w15 ⟨rfl, rfl⟩
                  clear hp14 hx14
                  go_wp2_with fail
                  refine (awake_any _).mono ?_
                  rintro e w16 ⟨rfl, hb16⟩
                  have hB16 : Below w.heap.size w w16 := step_below hB140 hb16 (Nat.le_refl _)
                  clear hB140 hb16
                  go_wp2
                  go_ret
                  exact ⟨rfl, hB16⟩
end Go.Proofs.Ytbbjkdnebgeioaa
