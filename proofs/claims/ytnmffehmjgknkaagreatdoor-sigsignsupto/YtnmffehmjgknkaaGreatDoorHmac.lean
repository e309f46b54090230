/-
  hash.HMAC by its contract.
-/
import Derived.Test.YtnmffehmjgknkaaGreatDoorWrite
import Derived.Laws.AppendOwnNone
namespace Go.Proofs.YtnmffehmjgknkaaGreatDoor
open Go.RowKit

/-- 'append(out, xs...)', out the call's own, xs whatever slice of bytes (nil, too). -/
theorem wpList_append_bytes {w : World} {ops : Array Oper} {rest : List Oper} {o : Oper} {a : Act} {Q : Exit → Act → World → Prop} (hgd : o.guard = none) (s x : Operand)
    (ho : o.op = .call { callee := .builtin .append, args := #[s, x], argTypes := #[23, 23] })
    (base : Nat) (v : Value) (l : List UInt8) (hs : a.eval s = v) (hown : Own w base v l)
    (xa : Option Addr) (m : List UInt8) (c : Nat) (hx : a.eval x = .slice xa m.length c) (hm : Bytes w xa m) (hc : xa = none → c = 0) (hbytes : l.length + m.length ≤ 140737488355328) (hbase : base ≤ w.heap.size)
    (h : ∀ v' w', Own w' base v' (l ++ m) → w.grownBy w' v.ownBlock → wpList Tryz.prog ops Q rest (a.put o.dst v') w') : wpList Tryz.prog ops Q (o :: rest) a w := by
  obtain ⟨i0, hi, hz0, hz1, hz2⟩ := info_parts info5
  cases xa with
  | none =>
    obtain rfl : m = [] := by rcases hm with h | ⟨_, _, he, _⟩; exact h; simp at he
    obtain rfl := hc rfl
    refine wpList_append_own_none hgd s x 23 ho base 5 i0 1 Tryz.underlying23 hi v l.length (bcs l) hs hown hx ?_
    exact h v w (by rw [List.append_nil]; exact hown) (World.grownBy.refl _ _)
  | some ad =>
    refine wpList_append_own w hgd s x 23 ho base 5 i0 (.int .u8 0) 1 1 Tryz.underlying23 hi hz0 hz1 hz2 rfl (by decide) v l.length (bcs l) hs hown ad m.length c (bcs m) hx (by rw [bcs_length, Nat.mul_one]) ?_ (bcs_one _) (by unfold maxLen; omega) (by omega) hbase ?_
    · intro j u hj
      rcases hm with rfl | ⟨b, off, he, _, hcs⟩
      · simp [bcs] at hj
      · simp only [Option.some.injEq] at he
        subst he
        have hj' : j < m.length := by
          have := (List.getElem?_eq_some_iff.1 hj).1
          rwa [bcs_length] at this
        rw [Addr.add_lit, hcs j hj', ← hj, bcs_get hj']
    · intro v' w' h1 h2 _
      refine h v' w' ?_ h2
      unfold Own
      rw [List.length_append, bcs_append]
      exact h1
theorem Own.bytes' {w : World} {base : Nat} {v : Value} {l : List UInt8} (h : Own w base v l) : ∃ a cap, v = .slice a l.length cap ∧ Bytes w a l ∧ (a = none → cap = 0) ∧ l.length ≤ cap := by
  obtain ⟨a, cap, rfl, hb⟩ := h.bytes
  refine ⟨a, cap, rfl, hb, ?_, ?_⟩
  · rintro rfl
    rcases h.2 with ⟨h', _⟩ | ⟨g, c, cur, h', _⟩
    · simp only [Value.slice.injEq] at h'
      exact h'.2.2
    · simp at h'
  · rcases h.2 with ⟨h', h0⟩ | ⟨g, c, cur, h', _, _, hn, _⟩
    · omega
    · simp only [Value.slice.injEq] at h'
      omega


theorem xor_u8 (x m : UInt8) : bits .xor .u8 (x.toNat : Int) (m.toNat : Int) = ((x ^^^ m).toNat : Int) := by
  have h1 : ∀ y : UInt8, BitVec.ofInt 8 (y.toNat : Int) = y.toBitVec := fun y => by
    rw [BitVec.ofInt_natCast]
    exact BitVec.eq_of_toNat_eq (by have := y.toNat_lt; simp)
  show IntKind.u8.wrap ((BitVec.ofInt 8 (x.toNat : Int) ^^^ BitVec.ofInt 8 (m.toNat : Int)).toNat : Int) = _
  rw [h1, h1]
  have := (x ^^^ m).toNat_lt
  have e : (x.toBitVec ^^^ m.toBitVec).toNat = (x ^^^ m).toNat := rfl
  rw [e, IntKind.wrap_u8']
  omega
theorem index42 (K : List UInt8) (hK : K.length = 64) (k : Nat) (h : k < 64) (w : World) :
    (Instr.index 134 (.agg (bcs K).toArray) (.int .i64 (k : Int))).run Tryz.prog w = .ok (.int .u8 ((K.getD k 0).toNat : Int)) w := by
  obtain ⟨i3, h3, _, hz, _⟩ := info_parts info5
  have hk : k < K.length := by omega
  have hc := bcs_get hk
  have e : K.getD k 0 = K[k] := by simp [List.getD, hk]
  simp [Instr.index, asIntOf, run_underlying Tryz.underlying134, sizeOf, typeInfo, part, h3, hz, hc, h, hk]

theorem cell_one_new (w : World) (a : Value) (t : TypeId) : ∀ j u, [a][j]? = some u → (w.alloc (.cells #[a] t)).cell? ((⟨w.heap.size, 0, none⟩ : Addr).add j) = some u := by
  intro j u hj
  rw [Addr.add_lit, World.cell?_alloc_mark]
  simpa using hj
theorem one_one (a : Value) (h : a.oneCell' = true) : ∀ u ∈ [a], u.oneCell' = true := by
  intro u hu
  simp at hu
  subst hu
  exact h

/-- The key as a block. -/
def kbL (key : List UInt8) : List UInt8 := (if 64 < key.length then shaL key else key) ++ noughts (64 - (if 64 < key.length then shaL key else key).length)
theorem shaL_length (l : List UInt8) : (shaL l).length = 32 := rfl
theorem kbL_length (key : List UInt8) : (kbL key).length = 64 := by
  unfold kbL noughts
  split
  · rw [List.length_append, shaL_length, List.length_replicate]
  · rw [List.length_append, List.length_replicate]; omega

theorem splice_kb (x : List UInt8) (h : x.length ≤ 64) : splice (bcs (noughts 64)) 0 (bcs (x.take 64)) = bcs (x ++ noughts (64 - x.length)) := by
  rw [List.take_of_length_le h]
  exact splice_pad x 64 h
theorem noughts_length (n : Nat) : (noughts n).length = n := by simp [noughts]
theorem bcs_all (l : List UInt8) : (bcs l).toArray.all (·.oneCell') = true := by
  rw [Array.all_eq_true']
  intro u hu
  exact bcs_one l u (by simpa using hu)

theorem keyBlock_any (a : Option Addr) (key : List UInt8) (cap : Nat) (w : World) (hcap : key.length ≤ cap) (hl : key.length ≤ 281474976710656) (hb : Bytes w a key) :
    Calls Tryz.prog 107 #[.slice a key.length cap] w fun e w' => e = .returned (.agg (bcs (kbL key)).toArray) ∧ Below w.heap.size w w' := by
  have hz := fun w => (zero_of_info (P := Tryz.prog) (t := 134) (v := .agg (bcs (noughts 64)).toArray) (n := 64) (by kernel_rfl)).1 w
  have HB2 : Hid (Bytes ((w.alloc (.cells (bcs (noughts 64)).toArray 134)).alloc (.cells (bcs (noughts 64)).toArray 134)) a key) := hb.below (((Below.refl _ w).alloc (Nat.le_refl _) _).alloc (by simp) _) (Nat.le_refl _)
  have hB2 : Below w.heap.size w ((w.alloc (.cells (bcs (noughts 64)).toArray 134)).alloc (.cells (bcs (noughts 64)).toArray 134)) := ((Below.refl _ w).alloc (Nat.le_refl _) _).alloc (by simp) _
  have HE1 : Hid (((w.alloc (.cells (bcs (noughts 64)).toArray 134)).alloc (.cells (bcs (noughts 64)).toArray 134)).heap[w.heap.size + 1]? = some (.cells (bcs (noughts 64)).toArray 134 (0, 0))) := by
    have := heap_alloc_last (w.alloc (.cells (bcs (noughts 64)).toArray 134)) (.cells (bcs (noughts 64)).toArray 134)
    simpa [Hid] using this
  have HE0 : Hid (((w.alloc (.cells (bcs (noughts 64)).toArray 134)).alloc (.cells (bcs (noughts 64)).toArray 134)).heap[w.heap.size]? = some (.cells (bcs (noughts 64)).toArray 134 (0, 0))) := (Below.heap_alloc _ _ _ (by simp)).trans (heap_alloc_last w _)
  clear hb
  by_cases h64 : 64 < key.length
  · have HK : Hid (kbL key = shaL key ++ noughts (64 - (shaL key).length)) := by show _ = _; rw [kbL, if_pos h64]
    go_enter Tryz.func107, Tryz.ntmps107
    go_wp2_with fail
    refine (sha_any a key cap _ hcap hl HB2.out).mono ?_
    rintro e w2 ⟨v, rfl, ho, hb2⟩
    obtain ⟨x, c, rfl, hx⟩ := ho.bytes
    have hsz : w.heap.size + 1 < ((w.alloc (.cells (bcs (noughts 64)).toArray 134)).alloc (.cells (bcs (noughts 64)).toArray 134)).heap.size := by simp
    have HE1' : Hid (w2.heap[w.heap.size + 1]? = some (.cells (bcs (noughts 64)).toArray 134 (0, 0))) := (hb2.block _ hsz).trans HE1.out
    have HE0' : Hid (w2.heap[w.heap.size]? = some (.cells (bcs (noughts 64)).toArray 134 (0, 0))) := (hb2.block _ (by omega)).trans HE0.out
    have hB3 : Below w.heap.size w w2 := hB2.trans (hb2.mono hB2.size)
    have HX : Hid (Bytes w2 x (shaL key)) := hx
    have hsl := shaL_length key
    have HSL : Hid ((shaL key).length = 32) := hsl
    generalize hS : shaL key = sk at *
    clear ho hb2 hx hz HE1 HE0 hB2 HB2 hsz hS
    subst_vars
    go_wp2_with (first
      | (refine wpList_copy_in rfl _ _ rfl (w.heap.size + 1) 0 64 64 rfl x sk 32 c HSL.out rfl HX.out (bcs (noughts 64)) 134 HE1'.out (by rw [bcs_length, noughts_length, List.length_take]; omega) ?_; intro w3 hh3 hg3; have HR1 : Hid (w3.heap[w.heap.size + 1]? = some (.cells (bcs (kbL key)).toArray 134 (0, 0))) := (by have := hh3.out; rw [splice_kb _ (by rw [HSL.out]; decide), ← HK.out] at this; exact this); have HR0 : Hid (w3.heap[w.heap.size]? = some (.cells (bcs (noughts 64)).toArray 134 (0, 0))) := (hg3.block _ (Array.getElem?_eq_some_iff.1 HE0'.out).1 (by simp)).trans HE0'.out)
      | refine wpList_load_row rfl 134 _ rfl _ rfl 134 _ (0, 0) _ HR1.out Tryz.underlying134 rfl (by rw [size134, List.size_toArray, bcs_length, kbL_length]) ?_
      | refine wpList_store_row rfl 134 _ _ rfl _ _ rfl rfl 134 _ HR0.out (by rw [size134, List.size_toArray, bcs_length, kbL_length]) (by rw [List.size_toArray, List.size_toArray, bcs_length, bcs_length, kbL_length, noughts_length]) (bcs_all _) ?_)
    refine bodyPost_ret (results_cell_row rfl _ _ w.heap.size 134 _ (0, 0) _ rfl (setRow_heap _ _ _ _ _ _ HR0.out) Tryz.underlying134 rfl (by rw [size134, List.size_toArray, bcs_length, kbL_length])) rfl ?_
    exact ⟨rfl, (hB3.trans (grown_below hg3 hB3.size (by omega))).trans ⟨rfl, rfl, rfl, by simp, fun j hj => setRow_other _ _ _ _ (by omega)⟩⟩
  · have HK : Hid (kbL key = key ++ noughts (64 - key.length)) := by show _ = _; rw [kbL, if_neg h64]
    have HSL : Hid (key.length ≤ 64) := by show _ ≤ _; omega
    have hB3 := hB2
    have HZ : Hid (∀ w, (zeroValue 134).run Tryz.prog w = .ok (.agg (bcs (noughts 64)).toArray) w) := hz
    go_enter Tryz.func107, Tryz.ntmps107
    go_wp2_with (first
      | (refine wpList_copy_in rfl _ _ rfl (w.heap.size + 1) 0 64 64 rfl a key key.length cap rfl rfl HB2.out (bcs (noughts 64)) 134 HE1.out (by rw [bcs_length, noughts_length, List.length_take]; omega) ?_; intro w3 hh3 hg3; have HR1 : Hid (w3.heap[w.heap.size + 1]? = some (.cells (bcs (kbL key)).toArray 134 (0, 0))) := (by have := hh3.out; rw [splice_kb _ HSL.out, ← HK.out] at this; exact this); have HR0 : Hid (w3.heap[w.heap.size]? = some (.cells (bcs (noughts 64)).toArray 134 (0, 0))) := (hg3.block _ (Array.getElem?_eq_some_iff.1 HE0.out).1 (by simp)).trans HE0.out)
      | refine wpList_load_row rfl 134 _ rfl _ rfl 134 _ (0, 0) _ HR1.out Tryz.underlying134 rfl (by rw [size134, List.size_toArray, bcs_length, kbL_length]) ?_
      | refine wpList_store_row rfl 134 _ _ rfl _ _ rfl rfl 134 _ HR0.out (by rw [size134, List.size_toArray, bcs_length, kbL_length]) (by rw [List.size_toArray, List.size_toArray, bcs_length, bcs_length, kbL_length, noughts_length]) (bcs_all _) ?_)
    refine bodyPost_ret (results_cell_row rfl _ _ w.heap.size 134 _ (0, 0) _ rfl (setRow_heap _ _ _ _ _ _ HR0.out) Tryz.underlying134 rfl (by rw [size134, List.size_toArray, bcs_length, kbL_length])) rfl ?_
    exact ⟨rfl, (hB3.trans (grown_below hg3 hB3.size (by omega))).trans ⟨rfl, rfl, rfl, by simp, fun j hj => setRow_other _ _ _ _ (by omega)⟩⟩

/-- The key's bytes, bits of them turned. -/
def kx (K : List UInt8) (m : UInt8) : List UInt8 := K.map (· ^^^ m)
theorem kx_length (K : List UInt8) (m : UInt8) : (kx K m).length = K.length := by simp [kx]
theorem kx_snoc (K : List UInt8) (m : UInt8) {k : Nat} (h : k < K.length) : (kx K m).take (k + 1) = (kx K m).take k ++ [K.getD k 0 ^^^ m] := by
  have h' : k < (kx K m).length := by rw [kx_length]; exact h
  rw [List.take_succ_eq_append_getElem h']
  congr 2
  simp [kx, List.getD, h]

set_option maxHeartbeats 1000000 in
theorem keyedSum_any (K : List UInt8) (m : UInt8) (a : Option Addr) (b : List UInt8) (cap : Nat) (w : World) (hK : K.length = 64) (_hcap : b.length ≤ cap) (hn : a = none → cap = 0) (hl : b.length ≤ 140737488351232) (hb : Bytes w a b) :
    Calls Tryz.prog 108 #[.agg (bcs K).toArray, .int .u8 (m.toNat : Int), .slice a b.length cap] w fun e w' => ∃ v, e = .returned v ∧ Own w' w.heap.size v (shaL (kx K m ++ b)) ∧ Below w.heap.size w w' := by
  obtain ⟨i0, hi, hz0, hz1, hz2⟩ := info_parts info5
  have hb0 : Below w.heap.size w (w.alloc (.cells (bcs K).toArray 134)) := (Below.refl _ w).alloc (Nat.le_refl _) _
  have HE0 : Hid ((w.alloc (.cells (bcs K).toArray 134)).heap[w.heap.size]? = some (.cells (bcs K).toArray 134 (0, 0))) := heap_alloc_last w _
  have HK : Hid (K.length = 64) := hK
  have HI : Hid (∀ (k : Nat) (_ : k < 64) w, (Instr.index 134 (.agg (bcs K).toArray) (.int .i64 (k : Int))).run Tryz.prog w = .ok (.int .u8 ((K.getD k 0).toNat : Int)) w) := fun k h w => index42 K hK k h w
  have hcc : (64 : Int) + (b.length : Int) = ((64 + b.length : Nat) : Int) := by omega
  clear hK
  generalize hC : 64 + b.length = C at *
  have hm : i0.bytes * C ≤ 281474976710656 := by rw [hz2]; omega
  go_enter Tryz.func108, Tryz.ntmps108
  go_wp2_with (first
    | (at_make; refine wpList_make_own _ rfl _ _ 23 rfl w.heap.size 5 i0 (.int .u8 0) 1 Tryz.underlying23 hi hz0 hz1 _ _ _ C rfl rfl (by omega) hm (by unfold maxLen; omega) (by simp) ?_; intro w1 hown1 hgrow1; have HE1 : Hid (w1.heap[w.heap.size]? = some (.cells (bcs K).toArray 134 (0, 0))) := (hgrow1.block _ (by simp) (by simp)).trans HE0.out)
    | refine wpList_load_row rfl 134 _ rfl _ rfl 134 _ (0, 0) _ HE1.out Tryz.underlying134 rfl (by rw [size134, List.size_toArray, bcs_length, HK.out]) ?_)
  have hnx1 : Below w.heap.size w w1 := hb0.grown hgrow1 (by simp) (by simp)
  go_loopw [7, 15] (fun v i wr => ∃ k : Nat, k ≤ 64 ∧ i = .int .i64 k ∧ v = .slice (some ⟨w.heap.size + 1, 0, none⟩) k C ∧ wr.ownsRow w.heap.size 5 1 (.slice (some ⟨w.heap.size + 1, 0, none⟩) k C) k (bcs ((kx K m).take k)) ∧ Below w.heap.size w wr)
    (fun _ i _ => 64 - (intOf i).toNat)
  case atStart => exact ⟨0, by omega, rfl, rfl, by rw [World.size_alloc] at hown1; exact hown1, hnx1⟩
  case round =>
    clear hown1 hgrow1 HE1 hnx1 HE0 hb0
    obtain ⟨k, hk, rfl, rfl, hown, hnx⟩ := hrel
    have hsz := hnx.size
    by_cases hlt : k < 64
    · have hidx := HI.out k hlt
      have HO : Hid _ := kx_snoc K m (k := k) (by rw [HK.out]; exact hlt)
      generalize K.getD k 0 = x at *
      have hxm := xor_u8 x m
      generalize x ^^^ m = y at *
      have hlt' : (k : Int) < 64 := by omega
      go_wp2_with (at_builtin; refine wpList_append_fits _ rfl (.tmp 18) (.tmp 22) 23 rfl w.heap.size 5 i0 1 Tryz.underlying23 hi hz1 (w.heap.size + 1) k C _ rfl (hown.alloc _) ⟨wr.heap.size, 0, none⟩ 1 1 [.int .u8 (y.toNat : Int)] rfl rfl (cell_one_new _ _ _) (one_one _ rfl) (by omega) ?_; intro w2 hown2 hgrow2)
      go_roundw
      case rel =>
        refine ⟨k + 1, by omega, by go_num, rfl, ?_, ?_⟩
        · rw [HO.out, bcs_append]
          exact hown2
        · exact (hnx.alloc hsz _).grown hgrow2 (by simp; omega) (by intro j hj; simp at hj; omega)
      case measure => simp [intOf]; omega
    · obtain rfl : k = 64 := by omega
      rw [List.take_of_length_le (by rw [kx_length, HK.out]; exact Nat.le_refl _)] at hown
      have hO : Own wr w.heap.size (.slice (some ⟨w.heap.size + 1, 0, none⟩) 64 C) (kx K m) := by
        unfold Own
        rw [kx_length, HK.out]
        exact hown
      have HO : Hid (Own wr w.heap.size (.slice (some ⟨w.heap.size + 1, 0, none⟩) 64 C) (kx K m)) := hO
      have HB : Hid (Bytes wr a b) := hb.below hnx (Nat.le_refl _)
      clear hown hO hb
      go_wp2_with (at_builtin; refine wpList_append_bytes rfl _ _ rfl w.heap.size (.slice (some ⟨w.heap.size + 1, 0, none⟩) 64 C) (kx K m) rfl HO.out a b cap rfl HB.out hn (by rw [kx_length, HK.out]; omega) hsz ?_; intro v2 w2 ho2 hg2)
      have hB2 : Below w.heap.size w w2 := hnx.grown hg2 hsz (by intro j hj; have e : w.heap.size + 1 = j := (by simpa [Value.ownBlock] using hj); omega)
      obtain ⟨x2, c2, rfl, hx2, _, hc2⟩ := ho2.bytes'
      have hs2 := hB2.size
      have HC : Hid _ := sha_any x2 (kx K m ++ b) c2 w2 hc2 (by rw [List.length_append, kx_length, HK.out, hC]; omega) hx2
      clear ho2 hg2 hx2 hc2 HO HB
      refine Calls.mono HC.out ?_
      rintro e w3 ⟨v3, rfl, ho3, hb3⟩
      have HO3 : Hid (Own w3 w.heap.size v3 (shaL (kx K m ++ b))) := own_mono ho3 hs2
      have hB3 : Below w.heap.size w w3 := hB2.trans (hb3.mono hs2)
      clear HC ho3 hb3 hB2 hnx
      go_wp2
      go_ret
      exact ⟨_, rfl, HO3.out, hB3⟩

/-- The keyed sum. -/
def hmacL (key b : List UInt8) : List UInt8 := shaL (kx (kbL key) 92 ++ shaL (kx (kbL key) 54 ++ b))

theorem load42_row (w : World) (g : Nat) (K : List UInt8) (hK : K.length = 64) (h : w.heap[g]? = some (.cells (bcs K).toArray 134 (0, 0))) :
    (loadCellsFrom ⟨g, 0, none⟩ 0 64 #[]).run Tryz.prog w = .ok (bcs K).toArray w := by
  have := run_loadCells_list (P := Tryz.prog) w ⟨g, 0, none⟩ (bcs K) (fun j v hv => by
    rw [Addr.add_lit, Nat.zero_add, cell_of_row _ _ j _ 134 (0, 0) h]
    simpa using hv)
  rw [bcs_length, hK] at this
  simpa [loadCells] using this

theorem range_row (w : World) (g : Nat) (cs : List Value) (t : TypeId) (h : w.heap[g]? = some (.cells cs.toArray t (0, 0))) : w.rangeAt g 0 cs := by
  intro j v hv
  rw [Nat.zero_add, cell_of_row w g j _ t (0, 0) h]
  simpa using hv

set_option maxHeartbeats 4000000 in
set_option maxRecDepth 20000 in
theorem hmac_any (ka : Option Addr) (key : List UInt8) (kcap : Nat) (a : Option Addr) (b : List UInt8) (cap : Nat) (w : World) (hkc : key.length ≤ kcap) (hkl : key.length ≤ 281474976710656) (hkb : Bytes w ka key) (hcap : b.length ≤ cap) (hn : a = none → cap = 0) (hl : b.length ≤ 140737488351232) (hb : Bytes w a b) :
    Calls Tryz.prog 47 #[.slice ka key.length kcap, .slice a b.length cap] w fun e w' => ∃ v, e = .returned v ∧ Own w' w.heap.size v (hmacL key b) ∧ Below w.heap.size w w' := by
  go_enter Tryz.func47, Tryz.ntmps47
  go_wp2_with fail
  refine (keyBlock_any ka key kcap _ hkc hkl hkb).mono ?_
  rintro e w1 ⟨rfl, hb1⟩
  have hz := (zero_of_info (P := Tryz.prog) (t := 134) (v := .agg (bcs (noughts 64)).toArray) (n := 64) (by kernel_rfl)).1 w1
  have hnew : (w1.alloc (.cells (bcs (noughts 64)).toArray 134)).heap[w1.heap.size]? = some (.cells (bcs (noughts 64)).toArray 134 (0, 0)) := heap_alloc_last w1 _
  have HN : Hid _ := hnew
  clear hnew
  go_wp2_with (refine wpList_store_row rfl 134 _ _ rfl _ _ rfl rfl 134 _ HN.out (by rw [size134, List.size_toArray, bcs_length, kbL_length]) (by rw [List.size_toArray, List.size_toArray, bcs_length, bcs_length, kbL_length, noughts_length]) (bcs_all _) ?_)
  simp only [Act.put]
  clear hz
  have hT : ((w1.alloc (.cells (bcs (noughts 64)).toArray 134)).setRow w1.heap.size (bcs (kbL key)).toArray).heap[w1.heap.size]? = some (.cells (bcs (kbL key)).toArray 134 (0, 0)) := setRow_heap _ _ _ _ _ _ HN.out
  have hnx : Below w.heap.size w ((w1.alloc (.cells (bcs (noughts 64)).toArray 134)).setRow w1.heap.size (bcs (kbL key)).toArray) :=
    (hb1.alloc hb1.size _).trans ⟨rfl, rfl, rfl, by simp, fun j hj => setRow_other _ _ _ _ (by have := hb1.size; omega)⟩
  have hw1 := hb1.size
  have HT : Hid _ := hT
  have HKL : Hid ((kbL key).length = 64) := kbL_length key
  have HM : Hid (hmacL key b = shaL (kx (kbL key) 92 ++ shaL (kx (kbL key) 54 ++ b))) := rfl
  clear hT hb1 HN
  generalize (w1.alloc (.cells (bcs (noughts 64)).toArray 134)).setRow w1.heap.size (bcs (kbL key)).toArray = w2 at *
  generalize kbL key = K at *
  generalize w1.heap.size = kg at *
  have HB2 : Hid (Bytes w2 a b) := hb.below hnx (Nat.le_refl _)
  have HC1 : Hid _ := keyedSum_any K 54 a b cap w2.drew HKL.out hcap hn hl (Bytes.same HB2.out rfl)
  have L2 := load42_row w2.drew kg K HKL.out HT.out
  have hs2 := hnx.size
  clear hb hkb
  have hu42 := Tryz.underlying134
  have hs42 : (Tryz.prog.info? 134).map (·.size) = some (bcs K).length := by rw [size134, bcs_length, HKL.out]
  have r2 : w2.drew.rangeAt kg 0 (bcs K) := range_row w2.drew kg (bcs K) 134 HT.out
  refine wp_region_held_drew (S := fun w' => w'.rangeAt kg 0 (bcs K)) (by kernel_rfl) r2 (fun hHeld => ?_)
  refine wpAnyH_take (i := 0) (v := .agg (bcs K).toArray) rfl (by kernel_rfl) (by kernel_rfl) (by kernel_rfl) (fun _ _ _ h => h) (yieldsIf_load_mid (by rfl) 134 (.tmp 5) rfl kg 0 rfl (bcs K) _ (fun w h => h) hu42 rfl hs42) r2 ?_
  refine wpAnyH_take (i := 1) (v := .agg (bcs K).toArray) rfl (by kernel_rfl) (by kernel_rfl) (by kernel_rfl) (fun _ _ _ h => h) (yieldsIf_load_mid (by rfl) 134 (.tmp 5) rfl kg 0 rfl (bcs K) _ (fun w h => h) hu42 rfl hs42) r2 ?_
  refine wpAnyH_take (i := 2) (v := .slice a b.length cap) rfl (by kernel_rfl) (by kernel_rfl) (by kernel_rfl) (fun _ _ _ h => h) (Or.inl ⟨by rfl, fun w _ => by rfl⟩) r2 ?_
  simp only [Act.put, List.setIfInBounds_toArray]
  refine wpAnyH_ready (rs := [3]) (by kernel_rfl) (by simp) ?_
  refine AllReadyH.cons (o := _) rfl (fun K' hK' => ?_) AllReadyH.nil
  go_simp
  refine Calls.mono HC1.out ?_
  rintro e w3 ⟨v3, rfl, ho3, hb3⟩
  obtain ⟨x3, c3, rfl, hx3, hn3, hc3⟩ := ho3.bytes'
  have HT3 : Hid (w3.heap[kg]? = some (.cells (bcs K).toArray 134 (0, 0))) := (hb3.block _ (Array.getElem?_eq_some_iff.1 HT.out).1).trans HT.out
  have r3 : w3.rangeAt kg 0 (bcs K) := range_row w3 kg (bcs K) 134 HT3.out
  have HC2 : Hid _ := keyedSum_any K 92 x3 (shaL (kx K 54 ++ b)) c3 w3 HKL.out hc3 hn3 (by rw [shaL_length]; decide) hx3
  have HB3 : Hid (Below w.heap.size w w3) := hnx.drew.trans (hb3.mono hs2)
  clear HC1 ho3 hb3 hx3 hc3 hn3
  go_wp2_with fail
  refine hK'.out _ _ r3 (fun _ => ?_)
  clear hK' K'
  refine wpAnyH_ready (rs := [4]) (by kernel_rfl) (by simp) ?_
  refine AllReadyH.cons (o := _) rfl (fun K' hK' => ?_) AllReadyH.nil
  go_simp
  refine Calls.mono HC2.out ?_
  rintro e w4 ⟨v4, rfl, ho4, hb4⟩
  have r4 : w4.rangeAt kg 0 (bcs K) := range_row w4 kg (bcs K) 134 ((hb4.block _ (Array.getElem?_eq_some_iff.1 HT3.out).1).trans HT3.out)
  go_wp2_with fail
  refine hK'.out _ _ r4 (fun _ => ?_)
  clear hK' K'
  refine wpAnyH_take (i := 5) (v := v4) rfl (by kernel_rfl) (by kernel_rfl) (by kernel_rfl) (fun _ _ _ h => h) (Or.inl ⟨by rfl, fun w _ => by rfl⟩) r4 ?_
  refine wpAnyH_done (by kernel_rfl) ?_ _
  show Exit.then _ _ Exit.normal ⟨#[.slice ka key.length kcap, .slice a b.length cap, undef, undef, v4, .pointer (some ⟨kg, 0, none⟩), .slice ka key.length kcap, .agg (bcs K).toArray, .agg (bcs K).toArray, .agg (bcs K).toArray, .slice a b.length cap, .slice x3 (shaL (kx K 54 ++ b)).length c3, v4], []⟩ w4
  have HO4 : Hid (Own w4 w.heap.size v4 (hmacL key b)) := by
    show Own _ _ _ _
    rw [HM.out]
    exact own_mono ho4 HB3.out.size
  have hB4 : Below w.heap.size w w4 := HB3.out.trans (hb4.mono HB3.out.size)
  clear ho4 hb4 HB3 HT3 HC2 r3 r4
  go_wp2
  go_ret
  exact ⟨_, rfl, HO4.out, hB4⟩
end Go.Proofs.YtnmffehmjgknkaaGreatDoor
