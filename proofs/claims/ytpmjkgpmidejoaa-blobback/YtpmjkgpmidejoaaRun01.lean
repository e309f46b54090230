/-
  Size, Pending, Dead, has, Fuse and burn by their contracts.
-/
import Derived.Test.YtpmjkgpmidejoaaRun00
namespace Go.Proofs.Ytpmjkgpmidejoaa
open Go.RowKit

/-- What a walk reads of a device. -/
theorem Dev.open {w : World} {F : Nat → Prop} {d : Nat} {M : D} (h : Dev w F d M) : ∃ gl cl gs cs ca cc, DevV w d (.slice (some ⟨gl, 0, none⟩) M.L.length cl) (.slice (some ⟨gs, 0, none⟩) M.S.length cs) (.slice ca M.C.length cc) M ∧ (∀ k, Foot d (.slice (some ⟨gl, 0, none⟩) M.L.length cl) (.slice (some ⟨gs, 0, none⟩) M.S.length cs) (.slice ca M.C.length cc) k → F k) ∧ M.S.length ≤ cs ∧ M.L.length ≤ cl := by
  obtain ⟨h0, h1, lv, sv, cv, h2, h3⟩ := h
  obtain ⟨gl, cl, rfl, hcl, _⟩ := owns_head h2.lr h0.pos
  obtain ⟨gs, cs, rfl, hcs, _⟩ := owns_head h2.sr (by rw [h0.len]; exact h0.pos)
  have : ∃ ca cc, cv = .slice ca M.C.length cc := by
    obtain ⟨_, ⟨rfl, hn⟩ | ⟨g, cap, cur, rfl, _⟩⟩ := h2.cr
    · exact ⟨none, 0, by rw [hn]⟩
    · exact ⟨_, _, rfl⟩
  obtain ⟨ca, cc, rfl⟩ := this
  exact ⟨gl, cl, gs, cs, ca, cc, h2, h3, hcs, hcl⟩

theorem ret_bool {p q : Bool} (g : p = q) : Ending.returned (.bool p) = .returned (.bool q) := by rw [g]
theorem ret_int {k : IntKind} {a b : Int} (h : a = b) : Ending.returned (.int k a) = .returned (.int k b) := by rw [h]

theorem size_any (d : Nat) (w : World) (F : Nat → Prop) (M : D) (h : Dev w F d M) :
    Calls Try.prog 66 #[.pointer (some ⟨d, 0, none⟩)] w fun e w' => e = .returned (.int .i64 (M.L.length : Int)) ∧ w = w' := by
  have hlen := h.1.len
  obtain ⟨gl, cl, gs, cs, ca, cc, hV, _⟩ := h.open
  have c1 := cell_blk hV.blk 1
  simp only [List.getElem?_toArray] at c1
  rw [← hlen]
  clear hV hlen h
  go_enter Try.func66, Try.ntmps66
  go_wp2
  go_ret
  exact ⟨rfl, rfl⟩

theorem pending_any (d : Nat) (w : World) (F : Nat → Prop) (M : D) (h : Dev w F d M) :
    Calls Try.prog 59 #[.pointer (some ⟨d, 0, none⟩)] w fun e w' => e = .returned (.int .i64 (M.C.length : Int)) ∧ w = w' := by
  obtain ⟨gl, cl, gs, cs, ca, cc, hV, _⟩ := h.open
  have c1 := cell_blk hV.blk 2
  simp only [List.getElem?_toArray] at c1
  clear hV h
  go_enter Try.func59, Try.ntmps59
  go_wp2
  go_ret
  exact ⟨rfl, rfl⟩

theorem has_any (d : Nat) (i : Int) (w : World) (F : Nat → Prop) (M : D) (h : Dev w F d M) :
    Calls Try.prog 55 #[.pointer (some ⟨d, 0, none⟩), .int .i64 i] w fun e w' => e = .returned (.bool (decide (0 ≤ i ∧ i < (M.S.length : Int)))) ∧ w = w' := by
  obtain ⟨gl, cl, gs, cs, ca, cc, hV, _⟩ := h.open
  have c1 := cell_blk hV.blk 1
  simp only [List.getElem?_toArray] at c1
  clear hV h
  go_enter Try.func55, Try.ntmps55
  go_wp2
  all_goals (go_ret; exact ⟨ret_bool (by rw [Bool.eq_iff_iff]; simp; try omega), rfl⟩)

theorem DevV.setD {w w' : World} {d : Nat} {lv sv cv : Value} {M : D} (h : DevV w d lv sv cv M) (st' : Nat) (k' : Int) (hb : w'.heap[d]? = some (.cells #[lv, sv, cv, .int .i64 (st' : Int), .int .i64 k'] 82 (0, 0))) (ho : ∀ k, k ≠ d → w'.heap[k]? = w.heap[k]?) : DevV w' d lv sv cv { M with st := st', k := k' } :=
  ⟨hb, owns_other h.lr fun j hj => ho j (h.dl j hj).1, owns_other h.sr fun j hj => ho j (h.ds j hj).1, owns_other h.cr fun j hj => ho j (h.dc j hj), h.dl, h.ds, h.dc⟩
theorem Dev.setD {w w' : World} {F : Nat → Prop} {d : Nat} {lv sv cv : Value} {M M' : D} (h : DevV w d lv sv cv M) (hF : ∀ k, Foot d lv sv cv k → F k) (hl : ∀ k, F k → k < w.heap.size) (st' : Nat) (k' : Int) (hok : M'.Ok) (hM : M' = { M with st := st', k := k' }) (hb : w'.heap[d]? = some (.cells #[lv, sv, cv, .int .i64 (st' : Int), .int .i64 k'] 82 (0, 0))) (hT : Turn (fun k => k = d) w w') (ho : ∀ k, k ≠ d → w'.heap[k]? = w.heap[k]?) : Dev w' F d M' ∧ Turn F w w' := by
  subst hM
  exact ⟨⟨hok, fun k hk => Nat.lt_of_lt_of_le (hl k hk) hT.size, lv, sv, cv, h.setD st' k' hb ho, hF⟩, hT.mono fun k hk => hF k (.inl hk)⟩

set_option maxHeartbeats 1000000 in
theorem burn_any (d : Nat) (w : World) (F : Nat → Prop) (M : D) (h : Dev w F d M) :
    Calls Try.prog 56 #[.pointer (some ⟨d, 0, none⟩)] w fun e w' => e = .returned (.int .i64 M.burn.1) ∧ Dev w' F d M.burn.2 ∧ Turn F w w' := by
  obtain ⟨gl, cl, gs, cs, ca, cc, hV, hF, _, _⟩ := h.open
  have c3 := cell_blk hV.blk 3
  have c4 := cell_blk hV.blk 4
  have f3 := frozen_blk hV.blk 3
  have f4 := frozen_blk hV.blk 4
  simp only [List.getElem?_toArray] at c3 c4
  have hk0 := h.1.k0
  have hk1 := h.1.k1
  have hst := h.1.st
  have HV := (show Hid _ from hV)
  have HF := (show Hid _ from hF)
  have HD : Hid (Dev w F d M) := h
  clear hV hF h
  rcases (by omega : M.st = 0 ∨ M.st = 1 ∨ M.st = 2) with hs | hs | hs
  · have e : M.burn = (0, M) := by simp [D.burn, hs]
    rw [hs] at c3
    rw [e]
    go_enter Try.func56, Try.ntmps56
    go_wp2
    go_ret
    exact ⟨rfl, HD.out, Turn.refl _ _⟩
  · rw [hs] at c3
    have HS : Hid (M.st = 1) := hs
    clear hs
    by_cases hk : 0 < M.k
    · have e : M.burn = (0, { M with k := M.k - 1 }) := by simp [D.burn, HS.out, hk]
      have hok : ({ M with k := M.k - 1 } : D).Ok := by have := HD.out.1.burn; rw [e] at this; exact this
      rw [e]
      go_enter Try.func56, Try.ntmps56
      go_wp2
      go_ret
      refine ⟨rfl, Dev.setD HV.out HF.out HD.out.2.1 1 (M.k - 1) hok ?_ (set_blk HV.out.blk 4 _ |>.trans ?_) ((Turn.refl (fun k => k = d) _).setCell (by rfl) _) (fun k hk => Below.heap_setCell _ _ _ _ hk)⟩
      · rw [← HS.out]
      · rw [HS.out]
        rfl
    · have e : M.burn = (50, { M with st := 2 }) := by simp [D.burn, HS.out, hk]
      have hok : ({ M with st := 2 } : D).Ok := by have := HD.out.1.burn; rw [e] at this; exact this
      rw [e]
      go_enter Try.func56, Try.ntmps56
      go_wp2
      go_ret
      refine ⟨rfl, Dev.setD HV.out HF.out HD.out.2.1 2 M.k hok rfl (set_blk HV.out.blk 3 _ |>.trans ?_) ((Turn.refl (fun k => k = d) _).setCell (by rfl) _) (fun k hk => Below.heap_setCell _ _ _ _ hk)⟩
      rfl
  · have e : M.burn = (50, M) := by simp only [D.burn, hs]; simp; rw [← hs]
    rw [hs] at c3
    rw [e]
    go_enter Try.func56, Try.ntmps56
    go_wp2
    go_ret
    exact ⟨rfl, HD.out, Turn.refl _ _⟩

set_option maxHeartbeats 1000000 in
theorem fuse_any (d : Nat) (q : Int) (w : World) (F : Nat → Prop) (M : D) (h : Dev w F d M) (hq : q ≤ 9223372036854775807) :
    Calls Try.prog 21 #[.pointer (some ⟨d, 0, none⟩), .int .i64 q] w fun e w' => e = .returned (.tuple #[]) ∧ Dev w' F d (M.fuse q) ∧ Turn F w w' := by
  obtain ⟨gl, cl, gs, cs, ca, cc, hV, hF, _, _⟩ := h.open
  have c3 := cell_blk hV.blk 3
  have c4 := cell_blk hV.blk 4
  have f3 := frozen_blk hV.blk 3
  have f4 := frozen_blk hV.blk 4
  simp only [List.getElem?_toArray] at c3 c4
  have hok := h.1.fuse q hq
  have HV := (show Hid _ from hV)
  have HF := (show Hid _ from hF)
  have HD : Hid (Dev w F d M) := h
  clear hV hF h
  by_cases hs : M.st = 2
  · have e : M.fuse q = M := by simp [D.fuse, hs]
    rw [hs] at c3
    rw [e]
    go_enter Try.func21, Try.ntmps21
    go_wp2
    refine bodyPost_end (results_none rfl _ _ _) rfl ?_
    exact ⟨rfl, HD.out, Turn.refl _ _⟩
  · have hs' : ((M.st : Int) == 2) = false := by simp; omega
    by_cases hk : q < 0
    · have e : M.fuse q = { M with st := 0, k := 0 } := by simp [D.fuse, hs, hk]
      rw [e] at hok ⊢
      clear hs
      go_enter Try.func21, Try.ntmps21
      go_wp2
      refine bodyPost_end (results_none rfl _ _ _) rfl ?_
      refine ⟨rfl, Dev.setD HV.out HF.out HD.out.2.1 0 0 hok rfl (set_blk (set_blk HV.out.blk 3 _) 4 _ |>.trans ?_) (((Turn.refl (fun k => k = d) _).setCell (by rfl) _).setCell (by rfl) _) (fun k hk => (Below.heap_setCell _ _ _ _ hk).trans (Below.heap_setCell _ _ _ _ hk))⟩
      rfl
    · have e : M.fuse q = { M with st := 1, k := q } := by simp [D.fuse, hs, hk]
      rw [e] at hok ⊢
      clear hs
      go_enter Try.func21, Try.ntmps21
      go_wp2
      refine bodyPost_end (results_none rfl _ _ _) rfl ?_
      refine ⟨rfl, Dev.setD HV.out HF.out HD.out.2.1 1 q hok rfl (set_blk (set_blk HV.out.blk 3 _) 4 _ |>.trans ?_) (((Turn.refl (fun k => k = d) _).setCell (by rfl) _).setCell (by rfl) _) (fun k hk => (Below.heap_setCell _ _ _ _ hk).trans (Below.heap_setCell _ _ _ _ hk))⟩
      rfl
end Go.Proofs.Ytpmjkgpmidejoaa
/-
  The statements' own Sector by its contract.
-/
namespace Go.Proofs.Ytpmjkgpmidejoaa
open Go.RowKit

/-- The bytes of a sector by two numbers. -/
def secB (a b : Int) (i : Nat) : UInt8 := UInt8.ofNat (wrap64 (wrap64 (a * (i : Int)) + b) % 256).toNat
def sec (a b : Int) : List UInt8 := (List.range 256).map (secB a b)
theorem sec_length (a b : Int) : (sec a b).length = 256 := by simp [sec]
theorem u8_wrap (x : Int) : ((UInt8.ofNat (x % 256).toNat).toNat : Int) = x % 256 := by
  rw [UInt8.toNat_ofNat']
  omega
def secTo (a b : Int) (k : Nat) : List UInt8 := (sec a b).take k ++ List.replicate (256 - k) 0
theorem secTo_length (a b : Int) {k : Nat} (h : k ≤ 256) : (secTo a b k).length = 256 := by simp [secTo, sec_length]; omega
theorem secTo_set (a b : Int) {k : Nat} (h : k < 256) : (secTo a b k).set k (secB a b k) = secTo a b (k + 1) := by
  have hl := sec_length a b
  rw [secTo, secTo, List.set_append_right _ _ (by simp; omega), List.length_take, Nat.min_eq_left (by omega), Nat.sub_self]
  rw [show 256 - k = (256 - (k + 1)) + 1 from by omega, List.replicate_succ, List.set_cons_zero, List.take_succ_eq_append_getElem (by omega)]
  simp [sec]
theorem bcs_set (l : List UInt8) (k : Nat) (c : UInt8) : bcs (l.set k c) = (bcs l).set k (.int .u8 (c.toNat : Int)) := by simp [bcs, List.map_set]
theorem secTo_zero (a b : Int) : secTo a b 0 = List.replicate 256 0 := by rw [secTo, List.take_zero, List.nil_append]
theorem secTo_full (a b : Int) : secTo a b 256 = sec a b := by
  rw [secTo, List.take_of_length_le (by rw [sec_length]; exact Nat.le_refl _)]
  simp
theorem made_bytes (n : Nat) : (madeCells (Value.int .u8 0).cells (n * 1)).toList = bcs (List.replicate n 0) := by
  apply List.ext_getElem?
  intro i
  simp only [madeCells, bcs, Value.cells, Nat.mul_one, List.map_replicate]
  rcases Nat.lt_or_ge i n with h | h
  · simp [h, Nat.mod_one]
  · simp [h]

set_option maxHeartbeats 1000000 in
theorem sector_any (a b : Int) (w : World) :
    Calls Try.prog 22 #[.int .i64 a, .int .i64 b] w fun e w' => e = .returned (.slice (some ⟨w.heap.size, 0, none⟩) 256 256) ∧ w'.ownsRow w.heap.size 5 1 (.slice (some ⟨w.heap.size, 0, none⟩) 256 256) 256 (bcs (sec a b)) ∧ Below w.heap.size w w' := by
  obtain ⟨i0, hi, hz0, hz1, hz2⟩ := info_parts info5
  have hm : i0.bytes * 256 ≤ 281474976710656 := by rw [hz2]; omega
  go_enter Try.func22, Try.ntmps22
  go_wp2_with (at_make; refine wpList_make_full _ rfl _ _ 38 rfl w.heap.size 5 i0 (.int .u8 0) 1 Try.underlying38 hi hz0 hz1 _ _ _ _ 256 rfl rfl (by omega) (by omega) hm (by unfold maxLen; omega) (Nat.le_refl _) ?_; intro w0 hown0 hgrow0; rw [made_bytes] at hown0)
  go_loopw [6] (fun i wr => ∃ k : Nat, k ≤ 256 ∧ i = .int .i64 k ∧ wr.ownsRow w.heap.size 5 1 (.slice (some ⟨w.heap.size, 0, none⟩) 256 256) 256 (bcs (secTo a b k)) ∧ Below w.heap.size w wr)
    (fun i _ => 256 - (intOf i).toNat)
  case atStart => exact ⟨0, by omega, rfl, by rw [secTo_zero]; exact hown0, (Below.refl _ _).grown hgrow0 (Nat.le_refl _) (by simp)⟩
  case round =>
    obtain ⟨k, hk, rfl, ho, hb⟩ := hrel
    clear hown0 hgrow0
    by_cases hlt : k < 256
    · have hc := owns_cell ho (bcs_get (by rw [secTo_length a b hk]; exact hlt : k < (secTo a b k).length))
      have hf := owns_frozen ho k
      have hki : (k : Int) < 256 := by omega
      have HO := (show Hid (wr.ownsRow w.heap.size 5 1 (.slice (some ⟨w.heap.size, 0, none⟩) 256 256) 256 (bcs (secTo a b k)) ∧ Below w.heap.size w wr) from ⟨ho, hb⟩)
      have hset := secTo_set a b hlt
      have HS := (show Hid _ from hset)
      clear ho hb hset
      go_wp2
      go_roundw
      case rel =>
        refine ⟨k + 1, by omega, by go_num, ?_, ?_⟩
        · have := owns_set HO.out.1 k (.int .u8 ((secB a b k).toNat : Int))
          rw [← bcs_set, HS.out] at this
          rw [secB, u8_wrap] at this
          exact this
        · exact HO.out.2.setCell (Nat.le_refl _) _
      case measure => simp [intOf]; omega
    · obtain rfl : k = 256 := by omega
      have HO := (show Hid _ from ho)
      clear ho
      go_wp2
      go_ret
      rw [secTo_full] at HO
      exact ⟨rfl, HO.out, hb⟩
end Go.Proofs.Ytpmjkgpmidejoaa
