/-
  TreeEmpties: the law's walk.
-/
import Derived.Test.YtpophalhmjchkaaEmpM
import Derived.Test.YtpophalhmjchkaaMove
import Derived.Test.YtpophalhmjchkaaAwake
import Derived.Deep.RegionLaw
namespace Go.Proofs.Ytpophalhmjchkaa
open Go.RowKit

/-- Whole numbers that came in. -/
def IntsE (w : World) (a : Option Addr) (l : List Int) : Prop := l = [] ∨ ∃ b off, a = some ⟨b, off, none⟩ ∧ b < w.heap.size ∧ ∀ j (h : j < l.length), w.cell? ⟨b, off + j, none⟩ = some (.int .i64 l[j])
theorem IntsE.at {w : World} {a : Option Addr} {l : List Int} (h : IntsE w a l) {j : Nat} (hj : j < l.length) : ∃ b off, a = some ⟨b, off, none⟩ ∧ ∀ w', Below w.heap.size w w' → w'.cell? ⟨b, off + j, none⟩ = some (.int .i64 l[j]) := by
  rcases h with rfl | ⟨b, off, rfl, hb, hc⟩
  · simp at hj
  · exact ⟨b, off, rfl, fun w' hw => (hw.cell (p := ⟨b, off + j, none⟩) hb).trans (hc j hj)⟩
theorem ownE_kep {w w' : World} {base e s n : Nat} {v : Value} {xs : List Value} (h : w.ownsRow base e s v n xs) (hk : ∀ g, v.ownBlock = some g → w'.heap[g]? = w.heap[g]?) : w'.ownsRow base e s v n xs := by
  refine ⟨h.1, ?_⟩
  rcases h.2 with h0 | ⟨g, cap, cur, rfl, hb, hg, hr⟩
  · exact .inl h0
  · exact .inr ⟨g, cap, cur, rfl, hb, (hk g rfl).trans hg, hr⟩
/-- A tree beside the list of its keys. -/
structure EJ (w : World) (b : Nat) (kv : Value) (K : List ByteArray) (L : List KV) (W : World) : Prop where
  tr : ∃ h t, @Tr (Clr kv) W b h t ∧ toL h t = L
  row : W.ownsRow w.heap.size 9 1 kv K.length (scs K)
  old : Below w.heap.size w W
theorem EJ.below {w : World} {b : Nat} {kv : Value} {K : List ByteArray} {L : List KV} {W W' : World} (h : EJ w b kv K L W) (hb : Below W.heap.size W W') : EJ w b kv K L W' := by
  obtain ⟨⟨x, t, h1, h2⟩, h3, h4⟩ := h
  exact ⟨⟨x, t, h1.below hb, h2⟩, ownE_kep h3 (fun g hg => hb.block g (owns_lt h3 g hg).2), h4.trans (hb.mono h4.size)⟩
theorem EJ.get {w : World} {b : Nat} {kv : Value} {K : List ByteArray} {L : List KV} {W : World} (h : EJ w b kv K L W) (k : ByteArray) :
    Calls Try.prog 10 #[.pointer (some ⟨b, 0, none⟩), .string k] W fun e w' => e = .returned (.tuple #[.string ((getL k L).getD ⟨#[]⟩), .bool (getL k L).isSome]) ∧ EJ w b kv K L w' := by
  obtain ⟨x, t, h1, h2⟩ := h.tr
  have := get_any b x t k W h1
  rw [h2] at this
  refine Calls.mono this ?_
  rintro e w' ⟨rfl, hb⟩
  exact ⟨rfl, h.below hb⟩
theorem EJ.put {w : World} {b : Nat} {kv : Value} {K : List ByteArray} {L : List KV} {W : World} (h : EJ w b kv K L W) (k v : ByteArray) (hl : L.length < 1000000000) :
    Calls Try.prog 13 #[.pointer (some ⟨b, 0, none⟩), .string k, .string v] W fun e w' => ∃ b', e = .returned (.pointer (some ⟨b', 0, none⟩)) ∧ EJ w b' kv K (putL k v L) w' ∧ Below w.heap.size w w' := by
  obtain ⟨x, t, h1, h2⟩ := h.tr
  have := put_any b x t k v W h1 (by rw [h2]; exact hl)
  rw [h2] at this
  refine Calls.mono this ?_
  rintro e w' ⟨b', rfl, x2, t2, g1, g2, g3⟩
  have hb := h.below g3
  exact ⟨b', rfl, ⟨⟨x2, t2, g1, g2⟩, hb.row, hb.old⟩, hb.old⟩
theorem EJ.app {w : World} {b : Nat} {kv : Value} {K : List ByteArray} {L : List KV} {W : World} (h : EJ w b kv K L W) (x : ByteArray) (hn : K.length < 1000000) :
    ∃ kv' w', (∀ ty, (Builtin.append_ #[23, 23] ty #[kv, .slice (some ⟨W.heap.size, 0, none⟩) 1 1]).run Try.prog (W.alloc (.cells #[.string x] 9)) = .ok kv' w') ∧ EJ w b kv' (K ++ [x]) L w' := by
  obtain ⟨i0, hi, hz0, hz1, hz2⟩ := info_parts info9
  have hbA : Below W.heap.size W (W.alloc (.cells #[.string x] 9)) := (Below.refl _ W).alloc (Nat.le_refl _) _
  have hA := h.below hbA
  have hos := h.old.size
  have hblk := heap_alloc_new W (.cells #[.string x] 9)
  have hnews : ∀ j u, (scs [x])[j]? = some u → (W.alloc (.cells #[.string x] 9)).cell? ((⟨W.heap.size, 0, none⟩ : Addr).add j) = some u := by
    intro j u hj
    rw [Addr.add_lit, cell_blk hblk, Nat.zero_add]
    simpa [scs] using hj
  obtain ⟨kv', w', hr, h2, h3, h4⟩ := append_ownE (P := Try.prog) (W.alloc (.cells #[.string x] 9)) w.heap.size 23 0 9 i0 _ 1 16 Try.underlying23 hi hz0 hz1 hz2 rfl (by decide) kv K.length (scs K) hA.row ⟨W.heap.size, 0, none⟩ 1 1 (scs [x]) rfl hnews (scs_one _) (by unfold maxLen; omega) (by omega) (by simp; omega)
  have hrow' : w'.ownsRow w.heap.size 9 1 kv' (K ++ [x]).length (scs (K ++ [x])) := by rw [List.length_append, scs_app]; exact h2
  obtain ⟨xh, t, t1, t2⟩ := hA.tr
  refine ⟨kv', w', fun _ => hr, ⟨xh, t, Tr.move (Mv.grow hA.row h2 h3 h4) t1, t2⟩, hrow', ?_⟩
  exact hA.old.grown h3 (by simp; omega) (fun k hk => (owns_lt hA.row k hk).1)
theorem EJ.done {w : World} {b : Nat} {kv : Value} {K : List ByteArray} {L : List KV} {W : World} (h : EJ w b kv K L W) : TI w L b W ∧ ∃ a c, kv = .slice a K.length c ∧ Sl W 1 a K.length c (scs K) := by
  obtain ⟨x, t, h1, h2⟩ := h.tr
  exact ⟨⟨x, t, Tr.move (Mv.none h.row) h1, h2, h.old⟩, Sl.own h.row (scs_one _)⟩
theorem EJ.start {w W : World} {b : Nat} (h1 : @Tr (Clr (.slice none 0 0)) W b 0 (.leaf [])) (h2 : Below w.heap.size w W) : EJ w b (.slice none 0 0) [] [] W := ⟨⟨0, _, h1, rfl⟩, World.ownsRow_nil _ _ _ _, h2⟩
theorem EJ.len {w : World} {b : Nat} {kv : Value} {K : List ByteArray} {L : List KV} {W : World} (h : EJ w b kv K L W) : Calls Try.prog 19 #[.pointer (some ⟨b, 0, none⟩)] W fun e w' => e = .returned (.int .i64 (L.length : Int)) ∧ W = w' := by
  obtain ⟨x, t, h1, h2⟩ := h.tr
  have := len_any b x t W h1
  rwa [h2] at this
theorem TI.len {w : World} {b : Nat} {L : List KV} {W : World} (h : TI w L b W) : Calls Try.prog 19 #[.pointer (some ⟨b, 0, none⟩)] W fun e w' => e = .returned (.int .i64 (L.length : Int)) ∧ W = w' := by
  obtain ⟨x, t, h1, h2, _⟩ := h
  have := len_any b x t W h1
  rwa [h2] at this
theorem TI.levels {w : World} {b : Nat} {W : World} (h : TI w [] b W) : Calls Try.prog 20 #[.pointer (some ⟨b, 0, none⟩)] W fun e w' => ∃ a c, e = .returned (.slice a 1 c) ∧ TI w [] b w' := by
  obtain ⟨x, t, h1, h2, h3⟩ := id h
  obtain ⟨_, _, _, hw⟩ := id h1
  obtain ⟨rfl, ht⟩ := whole_leaf hw (by rw [h2]; simp)
  rw [h2] at ht
  subst ht
  refine Calls.mono (levels_any b 0 _ W h1 ⟨by simp, by simp, by intro t ht; simp at ht; subst ht; show (keysP _).length ≤ 100; simp [keysP]⟩ (by simp [levelsL])) ?_
  rintro e w' ⟨u, rfl, hl, hb⟩
  obtain ⟨us, o1, o2⟩ := hl
  match us, o1, o2 with
  | [lv], o1, o2 =>
    obtain ⟨a, c, rfl⟩ := own_slice o1
    exact ⟨a, c, rfl, h.below hb⟩
theorem TI.delB {w W : World} {L : List KV} {b : Nat} (h : TI w L b W) (k : ByteArray) (hg : (getL k L).isSome = true) (hl : L.length < 1000000000) :
    Calls Try.prog 12 #[.pointer (some ⟨b, 0, none⟩), .string k] W fun e w5 => ∃ b2, e = .returned (.tuple #[.pointer (some ⟨b2, 0, none⟩), .bool true]) ∧ TI w (delL k L) b2 w5 ∧ TI w L b w5 ∧ Below W.heap.size W w5 := by
  obtain ⟨x, t, q1, q2, q3⟩ := id h
  refine Calls.mono (del_some b x t k W q1 (by rw [q2]; exact hg) (by rw [q2]; exact hl)) ?_
  rintro e w5 ⟨b2, rfl, h2, t2, g1, g2, g3⟩
  exact ⟨b2, rfl, ⟨h2, t2, g1, by rw [g2, q2], q3.trans (g3.mono q3.size)⟩, h.below g3, g3⟩
theorem TI.shapeB {w W : World} {L : List KV} {b : Nat} (h : TI w L b W) (hl : L.length ≤ 2000) :
    Calls Try.prog 17 #[.pointer (some ⟨b, 0, none⟩)] W fun e w5 => e = .returned (.bool true) ∧ TI w L b w5 ∧ Below W.heap.size W w5 := by
  obtain ⟨x, t, q1, q2, q3⟩ := id h
  refine Calls.mono (shape_any b x t L W q1 q2 hl) ?_
  rintro e w5 ⟨rfl, hb⟩
  exact ⟨rfl, h.below hb, hb⟩
/-- How long a slice is. -/
def lenV : Value → Nat
  | .slice _ n _ => n
  | _ => 0
/-- The place that the law picks. -/
theorem pick_lt {n : Nat} (h0 : 0 < n) (h1 : n ≤ 200) (x : Int) : ∃ kk : Nat, kk < n ∧ IntKind.i64.wrap (x.tmod (n : Int) + (n : Int)) = x.tmod (n : Int) + (n : Int) ∧ (x.tmod (n : Int) + (n : Int)).tmod (n : Int) = (kk : Int) := by
  have hn : (0 : Int) < (n : Int) := by omega
  have h2 := Int.tmod_lt_of_pos x hn
  have h3 := Int.lt_tmod_of_pos x hn
  have h4 : 0 ≤ x.tmod (n : Int) + (n : Int) := by omega
  have h5 := Int.emod_nonneg (x.tmod (n : Int) + (n : Int)) (by omega : (n : Int) ≠ 0)
  have h6 := Int.emod_lt_of_pos (x.tmod (n : Int) + (n : Int)) hn
  refine ⟨((x.tmod (n : Int) + (n : Int)) % (n : Int)).toNat, by omega, by rw [IntKind.wrap_i64]; omega, ?_⟩
  rw [Int.tmod_eq_emod_of_nonneg h4]
  omega

set_option maxRecDepth 100000 in
set_option maxHeartbeats 16000000 in
theorem empties_walk (a a2 : Option Addr) (c c2 : Nat) (ops : List OpT) (bl : List Int) (w : World) (ho : Ops w a ops) (hi : IntsE w a2 bl) :
    Calls Try.prog 6 #[.slice a ops.length c, .slice a2 bl.length c2] w fun e w' => e = .returned (.bool true) ∧ Below w.heap.size w w' := by
  obtain ⟨n, hn0⟩ : ∃ n, n = ops.length := ⟨_, rfl⟩
  rw [← hn0]
  have HN : Hid (n = ops.length) := hn0
  have HO : Hid (Ops w a ops ∧ IntsE w a2 bl) := ⟨ho, hi⟩
  clear hn0 ho hi
  have hnew := new_anyA (AV := Clr (.slice none 0 0)) w (fun q hq => by cases hq)
  by_cases h200 : 200 < n
  · have hgt : (200 : Int) < (n : Int) := by omega
    go_enter Try.func6, Try.ntmps6
    go_wp2_with (first
      | (go_at_call 8; refine Calls.mono hnew ?_; rintro e w1 ⟨b0, rfl, ht0, hb0⟩)
      | (go_at_call 9; refine Calls.mono (awake_any _) ?_; rintro e w2 ⟨rfl, hb2⟩))
    go_ret
    exact ⟨rfl, hb0.trans (hb2.mono hb0.size)⟩
  · have hgt : ¬ (200 : Int) < (n : Int) := by omega
    have hn2 : n ≤ 200 := by omega
    go_enter Try.func6, Try.ntmps6
    go_wp2_with (go_at_call 8; refine Calls.mono hnew ?_; rintro e w1 ⟨b0, rfl, ht0, hb0⟩)
    have HE0 : Hid (EJ w b0 (.slice none 0 0) [] [] w1) := EJ.start ht0 hb0
    clear hnew ht0 hb0 hgt h200
    go_loopw [5, 6, 7] (fun tv kv iv wr => ∃ (j b : Nat) (av : Option Addr) (cv : Nat) (K : List ByteArray), tv = .pointer (some ⟨b, 0, none⟩) ∧ kv = .slice av K.length cv ∧ iv = .int .i64 j ∧ j ≤ n ∧ EJ w b (.slice av K.length cv) K (PL ops j) wr ∧ K.Perm (keysP (PL ops j))) (fun _ _ iv _ => n - (intOf iv).toNat)
    case atStart => exact ⟨0, b0, none, 0, [], rfl, rfl, rfl, Nat.zero_le _, HE0.out, List.Perm.refl _⟩
    case round =>
      obtain ⟨j, b, av, cv, K, rfl, rfl, rfl, hj, hej, hpm⟩ := hrel
      clear HE0
      have hKL : K.length = (PL ops j).length := keysK_len hpm
      have hPl := PL_len ops j (by have := HN.out; omega)
      have hK2 : K.length ≤ 200 := by omega
      obtain ⟨q, hq⟩ : ∃ q, q = K.length := ⟨_, rfl⟩
      rw [← hq] at hej hK2 ⊢
      have HQ : Hid (q = K.length ∧ K.length = (PL ops j).length ∧ K.Perm (keysP (PL ops j)) ∧ (PL ops j).length ≤ j) := ⟨hq, hKL, hpm, hPl⟩
      have HEJ : Hid (EJ w b (.slice av q cv) K (PL ops j) wr) := hej
      clear hq hKL hpm hPl
      by_cases hlt : j < n
      · have hlo : j < ops.length := by have := HN.out; omega
        obtain ⟨bb, off, rfl, hcc⟩ := HO.out.1.at hlo
        obtain ⟨c0, c1, -⟩ := hcc wr hej.old
        have HPL : Hid (PL ops (j + 1) = putL ops[j].1 ops[j].2.1 (PL ops j)) := PL_succ hlo
        have HCC : Hid (∀ w', Below w.heap.size w w' → w'.cell? ⟨bb, off + j * 3, none⟩ = some (.string ops[j].1) ∧ w'.cell? ⟨bb, off + j * 3 + 1, none⟩ = some (.string ops[j].2.1)) := fun w' h => ⟨(hcc w' h).1, (hcc w' h).2.1⟩
        obtain ⟨x, hx⟩ : ∃ x, x = ops[j].1 := ⟨_, rfl⟩
        obtain ⟨y, hy⟩ : ∃ y, y = ops[j].2.1 := ⟨_, rfl⟩
        rw [← hx] at c0 HPL HCC
        rw [← hy] at c1 HPL HCC
        have hji : (j : Int) < (n : Int) := by omega
        have hget := hej.get x
        obtain ⟨gv, hgv⟩ : ∃ gv, gv = (getL x (PL ops j)).getD ⟨#[]⟩ := ⟨_, rfl⟩
        rw [← hgv] at hget
        have HPUT : Hid (∀ kv K' W, EJ w b kv K' (PL ops j) W → Calls Try.prog 13 #[.pointer (some ⟨b, 0, none⟩), .string x, .string y] W.drew fun e w' => ∃ b', e = .returned (.pointer (some ⟨b', 0, none⟩)) ∧ EJ w b' kv K' (PL ops (j + 1)) w' ∧ Below w.heap.size w w') := (by
          intro kv K' W h5
          rw [HPL.out]
          exact (h5.below (Below.refl _ W).drew).put x y (by have := HQ.out.2.2.2; omega))
        clear hcc hx hy hej hgv hlo
        cases hfd : (getL x (PL ops j)).isSome with
        | true =>
          rw [hfd] at hget
          have HPM : Hid (K.Perm (keysP (PL ops (j + 1)))) := (by
            have := keysK_put (x := x) (y := y) HQ.out.2.2.1
            rw [hfd, if_pos rfl] at this
            rw [HPL.out]
            exact this)
          clear hfd
          go_wp2_with fail
          refine Calls.mono hget ?_
          rintro e w2 ⟨rfl, hej2⟩
          have hput := HPUT.out _ _ _ hej2
          obtain ⟨c2', c3'⟩ := HCC.out w2.drew hej2.old.drew
          have HE2 : Hid (EJ w b (.slice av q cv) K (PL ops j) w2) := hej2
          clear hget hej2 HPUT HEJ c0 c1
          go_wp2
          go_region_held3 (fun w' => w'.cell? ⟨bb, off + j * 3, none⟩ = some (.string x) ∧ w'.cell? ⟨bb, off + j * 3 + 1, none⟩ = some (.string y)) (go_keep)
            (first
              | (go_at_call 13; refine Calls.mono hput ?_; rintro e w5 ⟨b5, rfl, hg5, hb5⟩; have s0 := (HCC.out w5 hb5).1; have s1 := (HCC.out w5 hb5).2))
          have HG5 : Hid (EJ w b5 (.slice av q cv) K (PL ops (j + 1)) w5) := hg5
          clear hg5 s0 s1 hput hb5
          go_wp2
          go_roundw
          case rel => exact ⟨j + 1, b5, av, cv, K, rfl, by rw [HQ.out.1], by go_num, by omega, by rw [← HQ.out.1]; exact HG5.out, HPM.out⟩
          case measure => simp [intOf]; omega
        | false =>
          rw [hfd] at hget
          have HPM : Hid ((K ++ [x]).Perm (keysP (PL ops (j + 1)))) := (by
            have := keysK_put (x := x) (y := y) HQ.out.2.2.1
            rw [hfd, if_neg (by simp)] at this
            rw [HPL.out]
            exact this)
          clear hfd
          go_wp2_with fail
          refine Calls.mono hget ?_
          rintro e w2 ⟨rfl, hej2⟩
          obtain ⟨c2', c3'⟩ := HCC.out w2 hej2.old
          obtain ⟨kv', w3, hr, hej3⟩ := hej2.app x (by have := HQ.out; omega)
          obtain ⟨a3, c3, rfl⟩ : ∃ a3 c3, kv' = .slice a3 (q + 1) c3 := by
            obtain ⟨a3, c3, e⟩ := own_slice hej3.row
            exact ⟨a3, c3, by rw [e, List.length_append, HQ.out.1]; rfl⟩
          have hput := HPUT.out _ _ _ hej3
          obtain ⟨c4', c5'⟩ := HCC.out w3 hej3.old
          clear hget hej2 HPUT HEJ c0 c1 c3'
          go_wp2_with (at_builtin; refine wpList_append_run rfl (.tmp 45) (.tmp 51) 23 23 rfl _ _ rfl rfl _ _ hr ?_)
          go_region_held3 (fun w' => w'.cell? ⟨bb, off + j * 3, none⟩ = some (.string x) ∧ w'.cell? ⟨bb, off + j * 3 + 1, none⟩ = some (.string y)) (go_keep)
            (first
              | (go_at_call 13; refine Calls.mono hput ?_; rintro e w5 ⟨b5, rfl, hg5, hb5⟩; have s0 := (HCC.out w5 hb5).1; have s1 := (HCC.out w5 hb5).2))
          have HG5 : Hid (EJ w b5 (.slice a3 (q + 1) c3) (K ++ [x]) (PL ops (j + 1)) w5) := hg5
          clear hg5 s0 s1 hput hb5 hej3
          go_wp2
          go_roundw
          case rel => exact ⟨j + 1, b5, a3, c3, K ++ [x], rfl, by rw [List.length_append, HQ.out.1]; rfl, by go_num, by omega, by rw [List.length_append, ← HQ.out.1]; exact HG5.out, HPM.out⟩
          case measure => simp [intOf]; omega
      · obtain rfl : n = j := by omega
        have hji : ¬ (n : Int) < (n : Int) := by omega
        have hln := hej.len
        rw [← HQ.out.2.1, ← HQ.out.1] at hln
        obtain ⟨hti, a3, c3, he3, hsl⟩ := hej.done
        rw [← HQ.out.1] at hsl he3
        cases he3
        have HST : Hid (TI w (PL ops n) b wr ∧ Sl wr 1 av q cv (scs K)) := ⟨hti, hsl⟩
        have HSR : Hid (Srt (PL ops n)) := PL_srt ops n (by have := HN.out; omega)
        clear hej hti hsl HEJ
        go_wp2_with (go_at_call 19; refine Calls.mono hln ?_; rintro e w2 ⟨rfl, rfl⟩)
        have HL0 : Hid (0 + q ≤ 200) := (by show 0 + q ≤ 200; omega)
        go_loopw [5, 6, 10] (fun tv kv iv wr => ∃ (i b : Nat) (av : Option Addr) (cv : Nat) (K : List ByteArray) (L : List KV), tv = .pointer (some ⟨b, 0, none⟩) ∧ kv = .slice av K.length cv ∧ iv = .int .i64 i ∧ i + K.length ≤ 200 ∧ TI w L b wr ∧ Sl wr 1 av K.length cv (scs K) ∧ K.Perm (keysP L) ∧ Srt L) (fun _ kv _ _ => lenV kv)
        case atStart => exact ⟨0, b, av, cv, K, _, rfl, by rw [HQ.out.1], rfl, by rw [← HQ.out.1]; exact HL0.out, HST.out.1, by rw [← HQ.out.1]; exact HST.out.2, HQ.out.2.2.1, HSR.out⟩
        case round =>
          clear HST HSR HL0 HQ
          obtain ⟨i, b, av, cv, K, L, rfl, rfl, rfl, hiK, hti, hsl, hpm, hsr⟩ := hrel
          obtain ⟨q, hq⟩ : ∃ q, q = K.length := ⟨_, rfl⟩
          rw [← hq] at hiK hsl ⊢
          by_cases hq0 : 0 < q
          · have hqI : (0 : Int) < (q : Int) := by omega
            have HK : Hid (q = K.length ∧ TI w L b wr ∧ Sl wr 1 av q cv (scs K) ∧ K.Perm (keysP L) ∧ Srt L) := ⟨hq, hti, hsl, hpm, hsr⟩
            have hold := hti.old
            clear hq hti hsl hpm hsr
            go_upto_if 80 with fail
            go_cut [11] from 77 to 93 (fun v wd => (∃ k : Nat, v = .int .i64 k ∧ k < q) ∧ wd = wr)
            case first =>
              by_cases hib : i < bl.length
              · have hibI : (i : Int) < (bl.length : Int) := by omega
                obtain ⟨ib, io, rfl, hic⟩ := HO.out.2.at hib
                have ci := hic wr hold
                obtain ⟨kk, hk1, hk2, hk3⟩ := pick_lt (n := q) hq0 (by omega) bl[i]
                obtain ⟨z, hz⟩ : ∃ z, z = bl[i] := ⟨_, rfl⟩
                rw [← hz] at ci hk2 hk3
                have HKK : Hid (kk < q) := hk1
                clear hz hic
                go_wp2
                go_meet
                case rel => exact ⟨⟨kk, rfl, HKK.out⟩, rfl⟩
              · have hibI : ¬ (i : Int) < (bl.length : Int) := by omega
                go_wp2
                go_meet
                case rel => exact ⟨⟨0, rfl, hq0⟩, rfl⟩
            case rest =>
              obtain ⟨⟨k, rfl, hkq⟩, rfl⟩ := hcut
              have hkL : k < K.length := by have := HK.out.1; omega
              obtain ⟨q', hq'⟩ : ∃ q', q = q' + 1 := ⟨q - 1, by omega⟩
              have hkI : (k : Int) < (q : Int) := by omega
              obtain ⟨kb, ko, rfl, hcs⟩ : ∃ kb ko, av = some ⟨kb, ko, none⟩ ∧ wc.cell? ⟨kb, ko + k, none⟩ = some (.string K[k]) := by
                obtain ⟨kb, ko, e, _, h5⟩ := HK.out.2.2.1.at (j := k) (by simp [scs]; exact hkL)
                refine ⟨kb, ko, e, ?_⟩
                have := h5 k (by simp [scs]; exact hkL)
                simpa [scs] using this
              obtain ⟨hfd, hpm2⟩ := keysK_del HK.out.2.2.2.1 HK.out.2.2.2.2 hkL
              have hLl : L.length = q := by rw [HK.out.1]; exact (keysK_len HK.out.2.2.2.1).symm
              have hdel := HK.out.2.1.delB K[k] hfd (by omega)
              obtain ⟨x, hx⟩ : ∃ x, x = K[k] := ⟨_, rfl⟩
              rw [← hx] at hcs hdel hpm2
              have hl2 : (delL x L).length = q' := by
                have h5 := keysK_len hpm2
                rw [List.length_append, List.length_take, List.length_drop] at h5
                have := HK.out.1
                omega
              have HP2 : Hid ((K.take k ++ K.drop (k + 1)).Perm (keysP (delL x L)) ∧ Srt (delL x L) ∧ (K.take k ++ K.drop (k + 1)).length = q' ∧ (delL x L).length = q') := (by
                refine ⟨hpm2, delL_srt HK.out.2.2.2.2, ?_, hl2⟩
                rw [List.length_append, List.length_take, List.length_drop]
                have := HK.out.1
                omega)
              obtain ⟨i9, hi9, hz90, hz91, hz92⟩ := info_parts info9
              obtain ⟨s1, t1⟩ := slice_hi Try.underlying23 hi9 HK.out.2.2.1 (k := k) (by omega)
              obtain ⟨a6, s2, t2⟩ := slice_lo Try.underlying23 hi9 hz91 HK.out.2.2.1 (k := k + 1) (by omega)
              have HT : Hid (Sl wc 1 (some ⟨kb, ko, none⟩) k cv (scs (K.take k)) ∧ Sl wc 1 a6 (q - (k + 1)) (cv - (k + 1)) (scs (K.drop (k + 1)))) := (by
                refine ⟨?_, ?_⟩
                · have := t1; rw [Nat.mul_one] at this; simpa [scs] using this
                · have := t2; rw [Nat.mul_one] at this; simpa [scs] using this)
              have hqq : ((q' : Int) != (q : Int) - 1) = false := by
                have : (q' : Int) = (q : Int) - 1 := by omega
                rw [this]
                simp
              have HLL : Hid (L.length = q ∧ q = q' + 1) := ⟨hLl, hq'⟩
              have hm13 : ∃ m : Nat, Int.tmod (i : Int) 13 = (m : Int) := ⟨i % 13, by rw [Int.tmod_eq_emod_of_nonneg (by omega)]; omega⟩
              obtain ⟨m, hm⟩ := hm13
              clear t1 t2 hx hfd hpm2 hl2 hLl hq'
              go_wp2_with fail
              refine Calls.mono hdel ?_
              rintro e w5 ⟨b2, rfl, ht2, ht1, hb5⟩
              have hl2 := ht2.len
              have hl1 := ht1.len
              rw [HP2.out.2.2.2] at hl2
              rw [HLL.out.1] at hl1
              have HT5 : Hid (TI w (delL x L) b2 w5 ∧ Sl w5 1 (some ⟨kb, ko, none⟩) k cv (scs (K.take k)) ∧ Sl w5 1 a6 (q - (k + 1)) (cv - (k + 1)) (scs (K.drop (k + 1)))) := ⟨ht2, HT.out.1.below hb5, HT.out.2.below hb5⟩
              clear hdel ht2 ht1 hb5 HT hcs
              go_wp2_with fail
              refine Calls.mono hl2 ?_
              rintro e w6 ⟨rfl, rfl⟩
              clear hl2
              go_wp2_with fail
              refine Calls.mono hl1 ?_
              rintro e w6 ⟨rfl, rfl⟩
              clear hl1
              go_upto_region 26 with fail
              go_cut [6] from 118 to 127 (fun v wd => ∃ a' c', v = .slice a' q' c' ∧ Sl wd 1 a' q' c' (scs (K.take k ++ K.drop (k + 1))) ∧ Below w5.heap.size w5 wd)
              case first =>
                have hM : (w5.alloc (.cells #[] 9)).ownsRow w5.heap.size 9 1 (.slice (some ⟨w5.heap.size, 0, none⟩) 0 0) 0 [] := World.ownsRow_made w5 #[] 0 (Nat.le_refl _) (Nat.zero_le _) rfl
                have hBD : Below w5.heap.size w5 (w5.alloc (.cells #[] 9)).drew := ((Below.refl _ w5).alloc (Nat.le_refl _) _).drew
                have HMD : Hid ((w5.alloc (.cells #[] 9)).drew.ownsRow w5.heap.size 9 1 (.slice (some ⟨w5.heap.size, 0, none⟩) 0 0) 0 []) := own_below hM ((Below.refl _ _).drew)
                have HS1 : Hid (Sl (w5.alloc (.cells #[] 9)).drew 1 (some ⟨kb, ko, none⟩) k cv (scs (K.take k))) := HT5.out.2.1.below hBD
                have hbs : w5.heap.size ≤ (w5.alloc (.cells #[] 9)).drew.heap.size := hBD.size
                have hn1 : 0 + k ≤ 1000000000 := by omega
                have HN2 : Hid (∀ v2 w6, w6.ownsRow w5.heap.size 9 1 v2 (0 + k) ([] ++ scs (K.take k)) → (w5.alloc (.cells #[] 9)).drew.grownBy w6 (Value.slice (some ⟨w5.heap.size, 0, none⟩) 0 0).ownBlock → (∃ x2 y2, v2 = .slice x2 k y2) ∧ w6.ownsRow w5.heap.size 9 1 v2 k (scs (K.take k)) ∧ Below w5.heap.size w5 w6 ∧ Sl w6 1 a6 (q - (k + 1)) (cv - (k + 1)) (scs (K.drop (k + 1))) ∧ w5.heap.size ≤ w6.heap.size) := (by
                  intro v2 w6 h5 h6
                  rw [Nat.zero_add, List.nil_append] at h5
                  have hb6 : Below w5.heap.size w5 w6 := hBD.grown h6 hbs (fun g hg => by simp [Value.ownBlock] at hg; omega)
                  exact ⟨own_slice h5, h5, hb6, HT5.out.2.2.below hb6, hb6.size⟩)
                have HN3 : Hid (∀ x2 y2 w6 v3 w7, w6.ownsRow w5.heap.size 9 1 (.slice x2 k y2) k (scs (K.take k)) → Below w5.heap.size w5 w6 → w7.ownsRow w5.heap.size 9 1 v3 (k + (q - (k + 1))) (scs (K.take k) ++ scs (K.drop (k + 1))) → w6.grownBy w7 (Value.slice x2 k y2).ownBlock → ∃ a' c', v3 = .slice a' q' c' ∧ Sl w7 1 a' q' c' (scs (K.take k ++ K.drop (k + 1))) ∧ Below w5.heap.size w5 w7) := (by
                  intro x2 y2 w6 v3 w7 h5 h6 h7 h8
                  have hb7 : Below w5.heap.size w5 w7 := h6.grown h8 h6.size (fun g hg => (owns_lt h5 g hg).1)
                  rw [← scs_app, show k + (q - (k + 1)) = q' from by have := HLL.out.2; omega] at h7
                  obtain ⟨a', c', e1, e2⟩ := Sl.own h7 (scs_one _)
                  exact ⟨a', c', e1, e2, hb7⟩)
                obtain ⟨m2, hm2⟩ : ∃ m2, m2 = q - (k + 1) := ⟨_, rfl⟩
                obtain ⟨c6, hc6⟩ : ∃ c6, c6 = cv - (k + 1) := ⟨_, rfl⟩
                rw [← hm2, ← hc6] at s2 HN2
                rw [← hm2] at HN3
                have hn2' : k + m2 ≤ 1000000000 := by omega
                have hk1I : ((k + 1 : Nat) : Int) = (k : Int) + 1 := by omega
                rw [hk1I] at s2
                have hwk : IntKind.i64.wrap ((k : Int) + 1) = (k : Int) + 1 := by rw [IntKind.wrap_i64]; omega
                clear hm hqq hM hBD hm2 hc6 hk1I HT5
                go_region_law
                  (first
                    | (refine step_append_sl rfl (.tmp 118) (.tmp 121) 23 rfl w5.heap.size 9 i9 (.string ⟨#[]⟩) 1 16 Try.underlying23 hi9 hz90 hz91 hz92 rfl (by decide) (by decide) _ 0 [] rfl HMD.out (some ⟨kb, ko, none⟩) k cv (scs (K.take k)) rfl HS1.out hn1 hbs ?_; intro v2 w6 ho6 hg6; have hN := HN2.out v2 w6 ho6 hg6; obtain ⟨x2, y2, rfl⟩ := hN.1; have hr2 := hN.2.1; have hs2 := hN.2.2.2.1; have hz2 := hN.2.2.2.2; have hbb6 := hN.2.2.1)
                    | (refine step_append_sl rfl (.tmp 122) (.tmp 126) 23 rfl w5.heap.size 9 i9 (.string ⟨#[]⟩) 1 16 Try.underlying23 hi9 hz90 hz91 hz92 rfl (by decide) (by decide) _ k (scs (K.take k)) rfl hr2 a6 m2 c6 (scs (K.drop (k + 1))) rfl hs2 hn2' hz2 ?_; intro v3 w7 ho7 hg7; have hN7 := HN3.out x2 y2 w6 v3 w7 hr2 hbb6 ho7 hg7))
                all_goals
                  go_wp2
                  go_meet
                  case rel => exact hN7
              case rest =>
                obtain ⟨a', c', rfl, hsl', hb6⟩ := hcut
                have HT6 : Hid (TI w (delL x L) b2 wc ∧ Sl wc 1 a' q' c' (scs (K.take k ++ K.drop (k + 1)))) := ⟨HT5.out.1.below hb6, hsl'⟩
                clear hsl' hb6 HT5 hqq s1 s2
                by_cases hm0 : m = 0
                · have hmb : ((m : Int) == 0) = true := by simp [hm0]
                  have hsh := HT6.out.1.shapeB (by have := HP2.out.2.2.2; have := HLL.out.2; omega)
                  clear hm0
                  go_wp2_with (go_at_call 17; refine Calls.mono hsh ?_; rintro e w8 ⟨rfl, ht8, hb8⟩)
                  go_roundw
                  case rel => exact ⟨i + 1, b2, a', c', K.take k ++ K.drop (k + 1), delL x L, rfl, by rw [HP2.out.2.2.1], by go_num, by have := HP2.out.2.2.1; have := HLL.out.2; omega, ht8, by rw [HP2.out.2.2.1]; exact HT6.out.2.below hb8, HP2.out.1, HP2.out.2.1⟩
                  case measure => have := HLL.out.2; simp [lenV]; omega
                · have hmb : ((m : Int) == 0) = false := by simpa using hm0
                  clear hm0
                  go_wp2
                  go_roundw
                  case rel => exact ⟨i + 1, b2, a', c', K.take k ++ K.drop (k + 1), delL x L, rfl, by rw [HP2.out.2.2.1], by go_num, by have := HP2.out.2.2.1; have := HLL.out.2; omega, HT6.out.1, by rw [HP2.out.2.2.1]; exact HT6.out.2, HP2.out.1, HP2.out.2.1⟩
                  case measure => have := HLL.out.2; simp [lenV]; omega
          · have hqz : q = 0 := by omega
            subst hqz
            have hLe : L = [] := by
              have h5 := keysK_len hpm
              rw [← hq] at h5
              exact List.eq_nil_of_length_eq_zero h5.symm
            subst hLe
            have hl0 := hti.len
            have hlv := hti.levels
            have HTI : Hid (∀ w8, TI w [] b w8 → Calls Try.prog 17 #[.pointer (some ⟨b, 0, none⟩)] w8 fun e w9 => e = .returned (.bool true) ∧ TI w [] b w9 ∧ Below w8.heap.size w8 w9) := fun w8 h8 => h8.shapeB (by simp)
            clear hq hti hsl hpm hsr hq0
            go_wp2_with fail
            refine Calls.mono hl0 ?_
            rintro e w5 ⟨rfl, rfl⟩
            clear hl0
            go_wp2_with fail
            refine Calls.mono hlv ?_
            rintro e w7 ⟨a7, c7, rfl, ht7⟩
            have hsh := HTI.out w7 ht7
            clear hlv HTI
            go_wp2_with fail
            refine Calls.mono hsh ?_
            rintro e w8 ⟨rfl, ht8, hb8⟩
            have hold8 := ht8.old
            clear hsh ht7 ht8 hb8
            go_wp2_with (go_at_call 9; refine Calls.mono (awake_any _) ?_; rintro e w9 ⟨rfl, hb9⟩)
            go_ret
            exact ⟨rfl, hold8.trans (hb9.mono hold8.size)⟩
end Go.Proofs.Ytpophalhmjchkaa
