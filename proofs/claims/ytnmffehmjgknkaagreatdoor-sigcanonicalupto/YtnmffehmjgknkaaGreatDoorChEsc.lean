/-
  chars.Escape by its contract.
-/
import Derived.Test.YtnmffehmjgknkaaGreatDoorChCore
import Derived.Deep.RegionHeld3
namespace Go.Proofs.YtnmffehmjgknkaaGreatDoor.Ch
open Go.RowKit

def hx (v : Nat) : UInt8 := UInt8.ofNat (if v < 10 then 48 + v else 55 + v)
def stays (slash : Bool) (c : UInt8) : Bool := stayB (c.toNat : Int) || (slash && decide ((c.toNat : Int) = 47))
def e1 (slash : Bool) (c : UInt8) : List UInt8 := if stays slash c then [c] else [37, hx (c.toNat / 16), hx (c.toNat % 16)]
def escL (slash : Bool) (l : List UInt8) : List UInt8 := l.flatMap (e1 slash)
theorem e1_len (slash : Bool) (c : UInt8) : (e1 slash c).length ≤ 3 := by unfold e1; split <;> simp
theorem escL_len (slash : Bool) (l : List UInt8) : (escL slash l).length ≤ 3 * l.length := by
  unfold escL
  induction l with
  | nil => simp
  | cons a r ih =>
    have := e1_len slash a
    simp only [List.flatMap_cons, List.length_append, List.length_cons]
    omega
theorem escL_snoc (slash : Bool) (l : List UInt8) (k : Nat) (h : k < l.length) : escL slash (l.take (k + 1)) = escL slash (l.take k) ++ e1 slash l[k] := by
  rw [List.take_succ_eq_append_getElem h, escL, List.flatMap_append]
  simp only [List.flatMap_cons, List.flatMap_nil, List.append_nil]
  rfl

def hxI (v : Int) : Int := if v < 10 then 48 + v else 55 + v
def hexUp : ByteArray := ⟨#[48, 49, 50, 51, 52, 53, 54, 55, 56, 57, 65, 66, 67, 68, 69, 70]⟩
theorem hexUp_at : ∀ v : Fin 16, ((hexUp[v.val]'(by have := v.isLt; show v.val < 16; omega)).toNat : Int) = hxI (v.val : Int) := by decide +kernel
theorem hx_at (v : Int) (h0 : 0 ≤ v) (hv : v < 16) (w : World) :
    (Instr.index 9 (.string ⟨#[48, 49, 50, 51, 52, 53, 54, 55, 56, 57, 65, 66, 67, 68, 69, 70]⟩) (.int .u8 v)).run Tryz.prog w = .ok (.int .u8 (hxI v)) w := by
  obtain ⟨n, rfl⟩ := Int.eq_ofNat_of_zero_le h0
  rw [run_index_string w 9 _ .u8 _ Tryz.underlying9, dif_pos ⟨h0, hv⟩]
  have := hexUp_at ⟨n, by omega⟩
  exact congrArg (fun z => Result.ok (Value.int .u8 z) w) this
theorem hx_cell (n : Nat) (h : n < 16) : ((hx n).toNat : Int) = hxI (n : Int) := by
  unfold hx hxI
  rw [UInt8.toNat_ofNat']
  split <;> split <;> omega
theorem and15_t : ∀ n : Nat, n < 256 → bits .and .u8 (n : Int) 15 = (n : Int) % 16 := by decide +kernel
theorem e1_cells_no {slash : Bool} {c : UInt8} {n : Nat} (hn : n = c.toNat) (h : stays slash c = false) : bcs (e1 slash c) = [.int .u8 37, .int .u8 (hxI ((n : Int) / 16)), .int .u8 (hxI ((n : Int) % 16))] := by
  have := c.toNat_lt
  rw [e1, h, hn]
  simp only [Bool.false_eq_true, if_false, bcs, List.map_cons, List.map_nil]
  rw [hx_cell _ (by omega), hx_cell _ (by omega)]
  rfl
theorem e1_cells_yes {slash : Bool} {c : UInt8} {n : Nat} (hn : n = c.toNat) (h : stays slash c = true) : bcs (e1 slash c) = [.int .u8 (n : Int)] := by
  rw [e1, h, hn]
  rfl
theorem own_more {w : World} {base : Nat} {v : Value} {l m : List UInt8} {xs : List Value} {k : Nat} (hk : m.length = k) (hm : bcs m = xs) (h : w.ownsRow base 5 1 v (l.length + k) (bcs l ++ xs)) : Own w base v (l ++ m) := by
  subst hk hm
  rw [Own, List.length_append, bcs_append]
  exact h
theorem step_append_own {P : Program} {w : World} {ops : Array Oper} {o : Oper} {a : Act} {K : Act → World → Prop} {Q : Exit → Act → World → Prop} {E : Prop} (hgd : o.guard = none) (s x : Operand) (t : TypeId)
    (ho : o.op = .call { callee := .builtin .append, args := #[s, x], argTypes := #[t, t] })
    (base : Nat) (e : TypeId) (i : TypeInfo) (z : Value) (size bytes : Nat) (ht : P.underlying t = some (.slice e)) (hi : P.info? e = some i) (hz : i.zero = some z)
    (hsize : i.size = size) (hby : i.bytes = bytes) (hzs : z.cells.size = size) (hsz : 0 < size)
    (v : Value) (n : Nat) (xs : List Value) (hs : a.eval s = v) (hown : w.ownsRow base e size v n xs)
    (ad : Addr) (m c : Nat) (news : List Value) (hx : a.eval x = .slice (some ad) m c) (hl : news.length = m * size) (hnews : ∀ j u, news[j]? = some u → w.cell? (ad.add j) = some u) (h1 : ∀ u ∈ news, u.oneCell' = true)
    (h63 : n + m ≤ maxLen) (hbytes : (n + m) * bytes ≤ 140737488355328) (hbase : base ≤ w.heap.size)
    (h : ∀ v' w', w'.ownsRow base e size v' (n + m) (xs ++ news) → w.grownBy w' v.ownBlock → K (a.put o.dst v') w') :
    if Region.wanted o (yielded ops a.tmps) = true then Oper.wp P o a w K Q else E := by
  have hw : Region.wanted o (yielded ops a.tmps) = true := by simp [Region.wanted, hgd]
  rw [if_pos hw]
  exact wp_append_own w s x t ho base e i z size bytes ht hi hz hsize hby hzs hsz v n xs hs hown ad m c news hx hl hnews h1 h63 hbytes hbase fun v' w' h2 h3 _ => h v' w' h2 h3
theorem cell_three_new (w : World) (a b c : Value) (t : TypeId) : ∀ j u, [a, b, c][j]? = some u → (w.alloc (.cells #[a, b, c] t)).cell? ((⟨w.heap.size, 0, none⟩ : Addr).add j) = some u := by
  intro j u hj
  rw [Addr.add_lit, World.cell?_alloc_mark]
  simpa using hj
theorem three_one (a b c : Int) : ∀ u ∈ [Value.int .u8 a, .int .u8 b, .int .u8 c], u.oneCell' = true := by
  intro u hu
  simp at hu
  rcases hu with rfl | rfl | rfl <;> rfl
theorem one_one (x : Value) (h : x.oneCell' = true) : ∀ u ∈ [x], u.oneCell' = true := by
  intro u hu
  simp only [List.mem_singleton] at hu
  subst hu
  exact h
set_option maxHeartbeats 800000 in
theorem escape_any (s : ByteArray) (slash : Bool) (w : World) (hr : s.size ≤ 17592186044416) :
    Calls Tryz.prog 36 #[.string s, .bool slash] w fun e w' => e = .returned (.string ⟨(escL slash s.data.toList).toArray⟩) ∧ Below w.heap.size w w' := by
  obtain ⟨i0, hi, hz0, hz1, hz2⟩ := info_parts info5
  have hm : (i0.bytes * s.size) ≤ 281474976710656 := by rw [hz2]; omega
  go_enter Tryz.func36, Tryz.ntmps36
  go_wp2_with (at_make; refine wpList_make_own _ rfl _ _ 23 rfl w.heap.size 5 i0 (.int .u8 0) 1 Tryz.underlying23 hi hz0 hz1 _ _ _ s.size rfl rfl (by omega) hm (by unfold maxLen; omega) (Nat.le_refl _) ?_; intro w0 hown0 hgrow0)
  go_loopw [5, 13] (fun v i wr => ∃ k : Nat, k ≤ s.size ∧ i = .int .i64 k ∧ Own wr w.heap.size v (escL slash (s.data.toList.take k)) ∧ Below w.heap.size w wr)
    (fun _ i _ => s.size - (intOf i).toNat)
  case atStart => exact ⟨0, Nat.zero_le _, rfl, hown0, (Below.refl _ _).grown hgrow0 (Nat.le_refl _) (by simp)⟩
  case round =>
    obtain ⟨k, hk, rfl, hown, hnx⟩ := hrel
    have hsz := hnx.size
    clear hown0 hgrow0
    have hL : s.data.toList.length = s.size := by simp
    have hle := escL_len slash (s.data.toList.take k)
    have hlk : (s.data.toList.take k).length ≤ k := List.length_take_le _ _
    by_cases hlt : k < s.size
    · have HE : Hid (escL slash (s.data.toList.take (k + 1)) = escL slash (s.data.toList.take k) ++ e1 slash s[k]) := escL_snoc slash _ _ (by omega)
      obtain ⟨c, hc⟩ : ∃ c, s[k] = c := ⟨_, rfl⟩
      rw [hc] at HE
      obtain ⟨n, hn⟩ : ∃ n : Nat, n = c.toNat := ⟨_, rfl⟩
      have hcn : (s[k].toNat : Int) = (n : Int) := by rw [hc, hn]
      have hn2 : n < 256 := by rw [hn]; exact c.toNat_lt
      have b1 : (n : Int) ≤ 255 := by omega
      have HN : Hid (n = c.toNat) := hn
      have HC : Hid (s[k] = c) := hc
      clear hn hc
      have HL : Hid (s.data.toList.length = s.size) := hL
      clear hL
      have HS : Hid (∀ W, Calls Tryz.prog 95 #[.int .u8 (n : Int)] W fun e w' => e = .returned (.bool (stayB (n : Int))) ∧ W = w') := fun W => staysAsItIs_any (n : Int) W (Int.natCast_nonneg n) b1
      have HY : Hid (stays slash c = (stayB (n : Int) || (slash && decide ((n : Int) = 47)))) := by
        show stays slash c = _
        rw [stays, ← HN.out]
      have HO : Hid (Own wr w.heap.size u5 (escL slash (s.data.toList.take k))) := hown
      obtain ⟨L1, hL1⟩ : ∃ L1, L1 = escL slash (s.data.toList.take (k + 1)) := ⟨_, rfl⟩
      have HL1 : Hid (L1 = escL slash (s.data.toList.take (k + 1))) := hL1
      clear hL1
      clear hown
      by_cases hyes : stays slash c = true
      · have hcond : stayB (n : Int) = true ∨ (stayB (n : Int) = false ∧ slash = true ∧ ((n : Int) == 47) = true) := by
          rw [HY.out] at hyes
          cases h1 : stayB (n : Int)
          · rw [h1] at hyes
            simp at hyes
            exact .inr ⟨rfl, hyes.1, by simp; exact hyes.2⟩
          · exact .inl rfl
        have HX : Hid (bcs (e1 slash c) = [.int .u8 (n : Int)]) := e1_cells_yes HN.out hyes
        have HXL : Hid ((e1 slash c).length = 1) := by show (e1 slash c).length = 1; rw [e1, if_pos hyes]; rfl
        clear hyes
        rcases hcond with hst | ⟨hst, rfl, h47⟩
        all_goals
          rw [hst] at HS
          clear hst
          go_wp2_with (first
            | (go_at_call 95; refine (HS.out _).mono ?_; rintro e w' ⟨rfl, rfl⟩)
            | (at_builtin; refine wpList_append_own _ rfl (.tmp 28) (.tmp 30) 23 rfl w.heap.size 5 i0 (.int .u8 0) 1 1 Tryz.underlying23 hi hz0 hz1 hz2 rfl (by decide) _ _ _ rfl (World.ownsRow.alloc HO.out _) ⟨wr.heap.size, 0, none⟩ 1 1 [.int .u8 (n : Int)] rfl rfl (cell_one_new _ _ _) (one_one _ rfl) (by unfold maxLen; omega) (by omega) (by simp; omega) ?_; intro v1 w1 hown1 hgrow1 _))
          have HR : Hid (Own w1 w.heap.size v1 L1) := by
            show Own _ _ _ _
            rw [HL1.out, HE.out]
            exact own_more HXL.out HX.out hown1
          have hB1 : Below w.heap.size w w1 := (hnx.alloc hsz _).grown hgrow1 (by simp; omega) (fun j hj => (World.ownsRow.lt HO.out j hj).1)
          clear hown1 hgrow1
          go_wp2
          go_roundw
          case rel => exact ⟨k + 1, by omega, by go_num, by rw [← HL1.out]; exact HR.out, hB1⟩
          case measure => simp [intOf]; omega
      · have hno : stays slash c = false := by simpa using hyes
        clear hyes
        have hcond : stayB (n : Int) = false ∧ (slash = false ∨ (slash = true ∧ ((n : Int) == 47) = false)) := by
          rw [HY.out] at hno
          cases h1 : stayB (n : Int)
          · rw [h1] at hno
            simp at hno
            cases slash
            · exact ⟨rfl, .inl rfl⟩
            · exact ⟨rfl, .inr ⟨rfl, by simpa using hno⟩⟩
          · rw [h1] at hno
            simp at hno
        have HX : Hid (bcs (e1 slash c) = [.int .u8 37, .int .u8 (hxI ((n : Int) / 16)), .int .u8 (hxI ((n : Int) % 16))]) := e1_cells_no HN.out hno
        have HXL : Hid ((e1 slash c).length = 3) := by show (e1 slash c).length = 3; rw [e1, hno]; rfl
        clear hno
        obtain ⟨hst, hcond⟩ := hcond
        rw [hst] at HS
        clear hst
        have hi1 := hx_at ((n : Int) / 16) (by omega) (by omega)
        have hi2 := hx_at ((n : Int) % 16) (by omega) (by omega)
        have hq := and15_t n hn2
        rcases hcond with rfl | ⟨rfl, h47⟩
        all_goals
          go_wp2_with (go_at_call 95; refine (HS.out _).mono ?_; rintro e w' ⟨rfl, rfl⟩)
          go_region_held3 (fun _ => True) (trivial)
            (first | (refine step_append_own rfl (.tmp 32) (.tmp 39) 23 rfl w.heap.size 5 i0 (.int .u8 0) 1 1 Tryz.underlying23 hi hz0 hz1 hz2 rfl (by decide) _ _ _ rfl (World.ownsRow.drew (World.ownsRow.alloc HO.out _)) ⟨wr.heap.size, 0, none⟩ 3 3 [.int .u8 37, .int .u8 (hxI ((n : Int) / 16)), .int .u8 (hxI ((n : Int) % 16))] rfl rfl (cell_three_new wr _ _ _ _) (three_one _ _ _) (by unfold maxLen; omega) (by omega) (by simp; omega) ?_; intro v1 w1 hown1 hgrow1))
          all_goals
            have HR : Hid (Own w1 w.heap.size v1 L1) := by
              show Own _ _ _ _
              rw [HL1.out, HE.out]
              exact own_more HXL.out HX.out hown1
            have hB1 : Below w.heap.size w w1 := ((hnx.alloc hsz _).drew).grown hgrow1 (by simp; omega) (fun j hj => (World.ownsRow.lt HO.out j hj).1)
            clear hown1 hgrow1 hi1 hi2 hq
            go_wp2
            go_roundw
            case rel => exact ⟨k + 1, by omega, by go_num, by rw [← HL1.out]; exact HR.out, hB1⟩
            case measure => simp [intOf]; omega
    · obtain rfl : k = s.size := by omega
      have htk : s.data.toList.take s.size = s.data.toList := List.take_of_length_le (by omega)
      rw [htk] at hown hle
      obtain ⟨a', cap', rfl, hbs⟩ := Own.bytes hown
      have hcv := convert_bytes wr a' cap' _ hbs
      clear hown htk hlk
      go_wp2
      go_ret
      exact ⟨rfl, hnx⟩
end Go.Proofs.YtnmffehmjgknkaaGreatDoor.Ch
