/-
  DiskPlays: the walk.
-/
import Derived.Test.YthmjejmkkllbaaaPair
import Derived.Test.YthmjejmkkllbaaaAwake
import Derived.Deep.CutRange
import Derived.Deep.CutBlock
import Derived.Deep.RegionWith
import Derived.BigRegion
import Derived.Deep.DeepCutAuto
namespace Go.Proofs.Ythmjejmkkllbaaa
open Go.RowKit

/-- A call of the script. -/
structure OpV where
  kd : Int
  i : Int
  a : Int
  b : Int
  z : Int
  ka : Option Addr
  keep : List Bool
  kc : Nat

def I64 (x : Int) : Prop := -9223372036854775808 ≤ x ∧ x ≤ 9223372036854775807

/-- A script that came in. -/
def Scr (w : World) (a : Option Addr) (l : List OpV) : Prop :=
  l = [] ∨ ∃ b off, a = some ⟨b, off, none⟩ ∧ b < w.heap.size ∧ ∀ j (h : j < l.length),
    w.cell? ⟨b, off + j * 6, none⟩ = some (.int .i64 l[j].kd) ∧ w.cell? ⟨b, off + j * 6 + 1, none⟩ = some (.int .i64 l[j].i) ∧ w.cell? ⟨b, off + j * 6 + 2, none⟩ = some (.int .i64 l[j].a) ∧
    w.cell? ⟨b, off + j * 6 + 3, none⟩ = some (.int .i64 l[j].b) ∧ w.cell? ⟨b, off + j * 6 + 4, none⟩ = some (.int .i64 l[j].z) ∧ w.cell? ⟨b, off + j * 6 + 5, none⟩ = some (.slice l[j].ka l[j].keep.length l[j].kc) ∧ Bools w l[j].ka l[j].keep ∧
    I64 l[j].a ∧ I64 l[j].z

theorem Scr.at {w : World} {a : Option Addr} {l : List OpV} (h : Scr w a l) {k : Nat} (hk : k < l.length) : ∃ b off, a = some ⟨b, off, none⟩ ∧ b < w.heap.size ∧ ∀ j (h : j < l.length),
    w.cell? ⟨b, off + j * 6, none⟩ = some (.int .i64 l[j].kd) ∧ w.cell? ⟨b, off + j * 6 + 1, none⟩ = some (.int .i64 l[j].i) ∧ w.cell? ⟨b, off + j * 6 + 2, none⟩ = some (.int .i64 l[j].a) ∧
    w.cell? ⟨b, off + j * 6 + 3, none⟩ = some (.int .i64 l[j].b) ∧ w.cell? ⟨b, off + j * 6 + 4, none⟩ = some (.int .i64 l[j].z) ∧ w.cell? ⟨b, off + j * 6 + 5, none⟩ = some (.slice l[j].ka l[j].keep.length l[j].kc) ∧ Bools w l[j].ka l[j].keep ∧
    I64 l[j].a ∧ I64 l[j].z := by
  rcases h with rfl | h
  · simp at hk
  · exact h

/-- A row of bytes that may be written. -/
def Wr (w : World) (g n : Nat) : Prop := g < w.heap.size ∧ ∀ j, j < n → (∃ c : Int, w.cell? ⟨g, j, none⟩ = some (.int .u8 c)) ∧ w.frozen? ⟨g, j, none⟩ = false
theorem Wr.set {w : World} {g n : Nat} (h : Wr w g n) (k : Nat) (c : Int) : Wr (w.setCell ⟨g, k, none⟩ (.int .u8 c)) g n := by
  refine ⟨by simpa [World.setCell] using h.1, fun j hj => ⟨?_, by rw [World.frozen?_setCell]; exact (h.2 j hj).2⟩⟩
  obtain ⟨⟨c0, h0⟩, _⟩ := h.2 j hj
  by_cases e : j = k
  · subst e
    exact ⟨c, World.cell?_setCell_same w _ _ h0⟩
  · exact ⟨c0, (World.cell?_setCell_other w _ _ _ (by simp only [ne_eq, Addr.mk.injEq]; omega)).trans h0⟩
theorem Wr.other {w w' : World} {g n : Nat} (h : Wr w g n) (hs : w.heap.size ≤ w'.heap.size) (hh : w'.heap[g]? = w.heap[g]?) : Wr w' g n :=
  ⟨Nat.lt_of_lt_of_le h.1 hs, fun j hj => ⟨by obtain ⟨c, hc⟩ := (h.2 j hj).1; exact ⟨c, (World.cell?_of_block (w := w) (a := ⟨g, j, none⟩) hh).trans hc⟩, (World.frozen?_of_block (w := w) (a := ⟨g, j, none⟩) hh).trans (h.2 j hj).2⟩⟩
theorem Fresh.wr {w : World} {g : Nat} {s : ByteArray} (h : Fresh w g s) : Wr w g s.size := ⟨h.lt, fun j hj => ⟨⟨_, h.cell j hj⟩, h.free j hj⟩⟩
theorem own_wr {w : World} {base g n cap : Nat} {l : List UInt8} (h : w.ownsRow base 5 1 (.slice (some ⟨g, 0, none⟩) n cap) n (bcs l)) (hn : n = l.length) (hg : g < w.heap.size) : Wr w g n :=
  ⟨hg, fun j hj => ⟨⟨_, owns_cell h (bcs_get (by omega))⟩, owns_frozen h j⟩⟩

theorem flush_len (M : D) : M.flush.2.L.length = M.L.length := by
  unfold D.flush
  split
  · rw [M.burn_L.1]
  · exact app_length _ _
theorem flush_top (M : D) : M.flush.2.C.length ≤ M.C.length := by
  unfold D.flush
  split
  · rw [M.burn_L.2.2]; exact Nat.le_refl _
  · exact Nat.zero_le _
theorem wr_len (M : D) (i : Int) (b : ByteArray) : (M.wr i b).2.L.length = M.L.length ∧ (M.wr i b).2.C.length ≤ M.C.length + 1 := by
  unfold D.wr
  split
  · exact ⟨rfl, Nat.le_succ _⟩
  · split
    · exact ⟨by rw [M.burn_L.1], by rw [M.burn_L.2.2]; omega⟩
    · exact ⟨by show M.burn.2.L.length = _; rw [M.burn_L.1], by show (M.C ++ [(i.toNat, b)]).length ≤ _; simp⟩
theorem fuse_len (M : D) (k : Int) : (M.fuse k).L.length = M.L.length ∧ (M.fuse k).C.length = M.C.length := by
  unfold D.fuse
  split
  · exact ⟨rfl, rfl⟩
  · split <;> exact ⟨rfl, rfl⟩
/-- All sectors have their 256 bytes. -/
structure D.Full (M : D) : Prop where
  l : ∀ x ∈ M.L, x.size = 256
  c : ∀ p ∈ M.C, p.2.size = 256
theorem app_full {L : List ByteArray} {C : List (Nat × ByteArray)} (hl : ∀ x ∈ L, x.size = 256) (hc : ∀ p ∈ C, p.2.size = 256) : ∀ x ∈ app L C, x.size = 256 := by
  induction C generalizing L with
  | nil => exact hl
  | cons p C ih =>
    show ∀ x ∈ app (L.set p.1 p.2) C, x.size = 256
    refine ih ?_ (fun q hq => hc q (List.mem_cons_of_mem _ hq))
    intro x hx
    rcases List.mem_or_eq_of_mem_set hx with h | h
    · exact hl x h
    · rw [h]; exact hc p List.mem_cons_self
theorem kept_sub (keep : List Bool) (C : List (Nat × ByteArray)) : ∀ p ∈ kept keep C, p ∈ C := by
  intro p hp
  simp only [kept, List.mem_map, List.mem_filter] at hp
  obtain ⟨⟨q, i⟩, ⟨h1, _⟩, rfl⟩ := hp
  exact (List.mem_zipIdx h1).2.2 ▸ List.getElem_mem _
theorem D.Full.burn {M : D} (h : M.Full) : M.burn.2.Full := by
  obtain ⟨e1, e2, e3⟩ := M.burn_L
  exact ⟨by rw [e1]; exact h.l, by rw [e3]; exact h.c⟩
theorem D.Full.wr {M : D} (h : M.Full) (i : Int) (b : ByteArray) : (M.wr i b).2.Full := by
  by_cases hs : M.st = 2
  · rw [wr_burnt (.inl hs) (by rw [burn_st2 hs]; decide)]
    exact h.burn
  · by_cases hi : 0 ≤ i ∧ i < (M.S.length : Int) ∧ b.size = 256
    · by_cases hb : M.burn.1 = 0
      · rw [wr_done (.inr hi) hb]
        refine ⟨h.burn.l, ?_⟩
        show ∀ p ∈ M.C ++ [(i.toNat, b)], p.2.size = 256
        intro p hp
        rw [List.mem_append] at hp
        rcases hp with hp | hp
        · exact h.c p hp
        · simp only [List.mem_singleton] at hp
          subst hp
          exact hi.2.2
      · rw [wr_burnt (.inr hi) hb]
        exact h.burn
    · rw [wr_arg hs hi]
      exact h
theorem D.Full.flush {M : D} (h : M.Full) : M.flush.2.Full := by
  unfold D.flush
  split
  · exact h.burn
  · exact ⟨app_full h.l h.c, by intro p hp; simp at hp⟩
theorem D.Full.crash {M : D} (h : M.Full) (keep : List Bool) : (M.crash keep).Full :=
  ⟨app_full h.l (fun p hp => h.c p (kept_sub keep M.C p hp)), by intro p hp; simp [D.crash] at hp⟩
theorem D.Full.fuse {M : D} (h : M.Full) (k : Int) : (M.fuse k).Full := by
  unfold D.fuse
  split
  · exact h
  · split <;> exact ⟨h.l, h.c⟩
theorem D.Full.new (n : Nat) : (D.new n blank).Full := ⟨by intro x hx; rw [List.eq_of_mem_replicate hx]; exact blank_size, by intro p hp; simp [D.new] at hp⟩
theorem rd_size {M : D} {N : R} (h : Sim M N) (hf : M.Full) (i : Int) : (N.rd i).1.size ≤ 256 := by
  unfold R.rd
  split
  · show 0 ≤ 256; omega
  · split
    · rw [h.l, h.c]
      show ((app M.L M.C).getD i.toNat ⟨#[]⟩).size ≤ 256
      rw [List.getD_eq_getElem?_getD]
      rcases hx : (app M.L M.C)[i.toNat]? with _ | x
      · show 0 ≤ 256; omega
      · have := app_full hf.l hf.c x (List.mem_of_getElem? hx)
        show x.size ≤ 256
        omega
    · show 0 ≤ 256; omega
/-- What the round knows. -/
structure Inv (w wr : World) (n k d r : Nat) (M : D) (N : R) : Prop where
  pair : Pair w wr d r (fun _ => False) M N
  sim : Sim M N
  len : M.L.length = n
  top : M.C.length ≤ k
  full : M.Full

set_option maxHeartbeats 8000000 in
set_option maxRecDepth 20000 in
theorem plays_walk (n : Int) (a : Option Addr) (l : List OpV) (cap : Nat) (w : World) (hn0 : I64 n) (hb : Scr w a l) :
    Calls Try.prog 4 #[.int .i64 n, .slice a l.length cap] w fun e w' => e = .returned (.bool true) ∧ Below w.heap.size w w' := by
  by_cases hn : 1 ≤ n ∧ n ≤ 4096
  · obtain ⟨n1, n2⟩ := hn
    obtain ⟨m, rfl⟩ := Int.eq_ofNat_of_zero_le (by omega : 0 ≤ n)
    have hnew := new_ok m w (by omega) (by omega)
    have HB : Hid (Scr w a l) := hb
    clear hb hn0
    go_enter Try.func4, Try.ntmps4
    go_wp2_with fail
    refine Calls.mono hnew ?_
    rintro e w1 ⟨d, rfl, hD1, hb1⟩
    clear hnew
    have HD1 : Hid (Dev w1 (fun k => w.heap.size ≤ k ∧ k < w1.heap.size) d (D.new m blank) ∧ Below w.heap.size w w1) := ⟨hD1, hb1⟩
    clear hD1 hb1
    have hrn := refnew_ok m w1 (by omega) (by omega)
    go_wp2_with fail
    refine Calls.mono hrn ?_
    rintro e w2 ⟨r, rfl, hR2, hb2⟩
    have hI2 : Inv w w2 m 0 d r (D.new m blank) (R.new m blank) := ⟨pair_make HD1.out.1 HD1.out.2 hR2 hb2, sim_new m blank, by simp [D.new], by simp [D.new], D.Full.new m⟩
    have HI2 := (show Hid _ from hI2)
    clear hrn hR2 hb2 HD1 hI2
    have haw := awake_any w2
    go_wp2_with (go_at_call 8; refine Calls.mono haw ?_; rintro e w3 ⟨rfl, hb3⟩)
    have HI3 : Hid (Inv w w3 m 0 d r (D.new m blank) (R.new m blank)) := ⟨HI2.out.pair.below hb3, HI2.out.sim, HI2.out.len, HI2.out.top, HI2.out.full⟩
    clear haw hb3 HI2
    go_loopw [9, 5, 7] (fun i dv rv wr => ∃ k : Nat, k ≤ l.length ∧ k ≤ 80 ∧ i = .int .i64 k ∧ ∃ d r M N, dv = .pointer (some ⟨d, 0, none⟩) ∧ rv = .pointer (some ⟨r, 0, none⟩) ∧ Inv w wr m k d r M N)
      (fun i _ _ _ => 80 - (intOf i).toNat)
    case atStart => exact ⟨0, Nat.zero_le _, by omega, rfl, d, r, _, _, rfl, rfl, HI3.out⟩
    case round =>
      obtain ⟨k, hk, hk80, rfl, d, r, M, N, rfl, rfl, hI⟩ := hrel
      clear HI3
      by_cases hlt : k < l.length ∧ k < 80
      · obtain ⟨hlt, h80⟩ := hlt
        obtain ⟨b, off, rfl, hbl, hcs⟩ := HB.out.at hlt
        obtain ⟨q0, q1, q2, q3, q4, q5, q6, q7, q8⟩ := hcs k hlt
        obtain ⟨o, ho⟩ : ∃ o, o = l[k] := ⟨_, rfl⟩
        rw [← ho] at q0 q1 q2 q3 q4 q5 q6 q7 q8
        have hold := hI.pair.old
        have x0 := (hold.cell (p := ⟨b, off + k * 6, none⟩) hbl).trans q0
        have x1 := (hold.cell (p := ⟨b, off + k * 6 + 1, none⟩) hbl).trans q1
        have x2 := (hold.cell (p := ⟨b, off + k * 6 + 2, none⟩) hbl).trans q2
        have x3 := (hold.cell (p := ⟨b, off + k * 6 + 3, none⟩) hbl).trans q3
        have x4 := (hold.cell (p := ⟨b, off + k * 6 + 4, none⟩) hbl).trans q4
        have x5 := (hold.cell (p := ⟨b, off + k * 6 + 5, none⟩) hbl).trans q5
        have hki : (k : Int) < (l.length : Int) := by omega
        have h80i : (k : Int) < 80 := by omega
        have HQ : Hid (Bools w o.ka o.keep ∧ I64 o.a ∧ I64 o.z) := ⟨q6, q7, q8⟩
        have HI : Hid (Inv w wr m k d r M N) := hI
        clear q0 q1 q2 q3 q4 q5 q6 q7 q8 hcs hI hold ho
        go_upto_block 2 with fail
        obtain ⟨W, hW⟩ : ∃ W, W = wr.alloc (.cells #[.int .i64 o.kd, .int .i64 o.i, .int .i64 o.a, .int .i64 o.b, .int .i64 o.z, .slice o.ka o.keep.length o.kc] 42) := ⟨_, rfl⟩
        rw [← hW]
        have hX : W.heap[wr.heap.size]? = some (.cells #[.int .i64 o.kd, .int .i64 o.i, .int .i64 o.a, .int .i64 o.b, .int .i64 o.z, .slice o.ka o.keep.length o.kc] 42 (0, 0)) := by rw [hW]; exact heap_alloc_new wr _
        have hsz : W.heap.size = wr.heap.size + 1 := by rw [hW]; simp
        have hwX : w.heap.size ≤ wr.heap.size := HI.out.pair.old.size
        have hP : Pair w W d r (fun j => j = wr.heap.size) M N := HI.out.pair.wider (by rw [hW]; exact (Below.refl _ _).alloc (Nat.le_refl _) _) (fun j hj => .inr ⟨by omega, by omega⟩)
        have HP : Hid (Pair w W d r (fun j => j = wr.heap.size) M N) := hP
        have HX : Hid (W.heap[wr.heap.size]? = some (.cells #[.int .i64 o.kd, .int .i64 o.i, .int .i64 o.a, .int .i64 o.b, .int .i64 o.z, .slice o.ka o.keep.length o.kc] 42 (0, 0))) := hX
        have HS : Hid (Sim M N ∧ M.L.length = m ∧ M.C.length ≤ k ∧ M.Ok ∧ M.Full) := ⟨HI.out.sim, HI.out.len, HI.out.top, HI.out.pair.ok, HI.out.full⟩
        have y1 := cell_blk hX 1
        have y2 := cell_blk hX 2
        have y3 := cell_blk hX 3
        have y4 := cell_blk hX 4
        have y5 := cell_blk hX 5
        simp only [List.getElem?_toArray] at y1 y2 y3 y4 y5
        obtain ⟨kd, hkd⟩ : ∃ kd, kd = o.kd := ⟨_, rfl⟩
        rw [← hkd]
        clear x0 x1 x2 x3 x4 x5 hX hP hW HI hkd
        go_cut [11, 5, 7] (fun okv dv rv wc => okv = .bool true ∧ ∃ d r M N, dv = .pointer (some ⟨d, 0, none⟩) ∧ rv = .pointer (some ⟨r, 0, none⟩) ∧ Inv w wc m (k + 1) d r M N)
        case first =>
          by_cases k0 : kd = 0
          · as_aux_lemma =>
              subst k0
              have hse := sector_any o.a o.b W
              go_wp2_with fail
              refine Calls.mono hse ?_
              rintro e w4 ⟨rfl, ho4, hb4⟩
              have hlt4 : W.heap.size < w4.heap.size := (owns_lt ho4 _ rfl).2
              have HO4 := (show Hid (w4.ownsRow W.heap.size 5 1 (.slice (some ⟨W.heap.size, 0, none⟩) 256 256) 256 (bcs (sec o.a o.b))) from ho4)
              obtain ⟨g, hg⟩ : ∃ g, g = W.heap.size := ⟨_, rfl⟩
              obtain ⟨y, hy⟩ : ∃ y : ByteArray, y = ⟨(sec o.a o.b).toArray⟩ := ⟨_, rfl⟩
              rw [← hg] at HO4 hlt4 ⊢
              have hP4 : Pair w w4.drew d r (fun j => j = wr.heap.size ∨ j = g) M N := (HP.out.wider (K' := fun j => j = wr.heap.size ∨ j = g) hb4 (fun j hj => by rcases hj with hj | hj; exact .inl hj; exact .inr ⟨by omega, by omega⟩)).below (Below.refl _ _).drew
              have hX4 : w4.heap[wr.heap.size]? = _ := (hb4.block wr.heap.size (by omega)).trans HX.out
              have hw11 := p_write (cap := 256) o.i hP4 (.inr rfl) (l := sec o.a o.b) (own_bytes (w := w4.drew) HO4.out) (by have := HS.out.2.2.1; omega)
              rw [sec_length, ← hy] at hw11
              obtain ⟨z1, z2⟩ := sim_wr HS.out.1 HS.out.2.2.2.1 o.i y
              have z3 := wr_len M o.i y
              obtain ⟨v, hv⟩ : ∃ v, v = (M.wr o.i y).1 := ⟨_, rfl⟩
              rw [← hv] at hw11 z1
              have hvv : (v == v) = true := by simp
              obtain ⟨M', hM'⟩ : ∃ M', M' = (M.wr o.i y).2 := ⟨_, rfl⟩
              obtain ⟨N', hN'⟩ : ∃ N', N' = (N.wr o.i y).2 := ⟨_, rfl⟩
              rw [← hM'] at hw11 z2 z3
              rw [← hN'] at z2
              have HF : Hid (∀ w5 : World, (∀ j, (j = wr.heap.size ∨ j = g) → w5.heap[j]? = w4.heap[j]?) → w5.cell? ⟨wr.heap.size, 1, none⟩ = some (.int .i64 o.i) ∧ (convert 31 9 (.slice (some ⟨g, 0, none⟩) 256 256)).run Try.prog w5 = .ok (.string y) w5 ∧ Wr w5 g 256) := by
                intro w5 h5
                have hb5 := (h5 wr.heap.size (.inl rfl)).trans hX4
                have ho5 : w5.ownsRow g 5 1 (.slice (some ⟨g, 0, none⟩) 256 256) 256 (bcs (sec o.a o.b)) := owns_other (owns_base HO4.out fun j hj => by simp [Value.ownBlock] at hj; omega) fun j hj => by
                  obtain rfl : g = j := by simpa [Value.ownBlock] using hj
                  exact h5 g (.inr rfl)
                have hcv := convert_bytes w5 (some ⟨g, 0, none⟩) 256 (sec o.a o.b) (own_bytes ho5)
                rw [sec_length, ← hy] at hcv
                exact ⟨cell_blk hb5 1, hcv, own_wr ho5 (sec_length _ _).symm (owns_lt ho5 _ rfl).2⟩
              have HR17 : Hid (∀ w5, Pair w w5 d r (fun j => j = wr.heap.size ∨ j = g) M' N → Calls Try.prog 17 #[.pointer (some ⟨r, 0, none⟩), .int .i64 o.i, .string y] w5 fun e w6 => e = .returned (.int .i64 v) ∧ Pair w w6 d r (fun j => j = wr.heap.size ∨ j = g) M' N' ∧ ∀ j, (j = wr.heap.size ∨ j = g) → w6.heap[j]? = w5.heap[j]?) := by
                intro w5 h5
                have := p_rwrite o.i y h5 (by rw [HS.out.1.c]; have := HS.out.2.2.1; omega)
                rw [← z1, ← hN'] at this
                exact this
              have HW11 := (show Hid _ from hw11)
              have HZ : Hid (Sim M' N' ∧ M'.L.length = m ∧ M'.C.length ≤ k + 1 ∧ M'.Full) := ⟨z2, z3.1.trans HS.out.2.1, by have := HS.out.2.2.1; omega, by rw [hM']; exact HS.out.2.2.2.2.wr _ _⟩
              have i0 := (HF.out w4 (fun _ _ => rfl)).1
              have i1 := (HF.out w4.drew (fun _ _ => rfl)).1
              have i2 := (HF.out w4.drew (fun _ _ => rfl)).2.1
              have hKw : w.heap.size ≤ g := by omega
              clear hse ho4 hb4 hP4 hX4 hw11 z1 z2 z3 hv hM' hN' hy hg y2 y3 y4 y5 y1
              go_wp2
              go_region_held3 (fun w' => w'.cell? ⟨wr.heap.size, 1, none⟩ = some (.int .i64 o.i) ∧ (convert 31 9 (.slice (some ⟨g, 0, none⟩) 256 256)).run Try.prog w' = .ok (.string y) w') (go_keep)
                (first
                  | (go_at_call 11; refine Calls.mono HW11.out ?_; rintro e w5 ⟨rfl, hP5, hk5⟩; have s0 := (HF.out w5 hk5).1; have s1 := (HF.out w5 hk5).2.1)
                  | (go_at_call 17; refine Calls.mono (HR17.out _ hP5) ?_; rintro e w6 ⟨rfl, hP6, hk6⟩; have s2 := (HF.out w6 (fun j hj => (hk6 j hj).trans (hk5 j hj))).1; have s3 := (HF.out w6 (fun j hj => (hk6 j hj).trans (hk5 j hj))).2.1))
              have HP6 : Hid (Pair w w6 d r (fun j => j = wr.heap.size ∨ j = g) M' N' ∧ Wr w6 g 256) := ⟨hP6, (HF.out w6 (fun j hj => (hk6 j hj).trans (hk5 j hj))).2.2⟩
              clear hP5 hk5 hP6 hk6 s0 s1 s2 s3 i0 i1 i2 HF HR17 HW11 HO4
              obtain ⟨X, hX⟩ : ∃ X, X = wr.heap.size := ⟨_, rfl⟩
              rw [← hX] at HP6 hwX
              have HXX : Hid (X = wr.heap.size) := hX
              clear hX
              go_wp2
              go_loopw [13] (fun i wq => ∃ t : Nat, t ≤ 256 ∧ i = .int .i64 t ∧ Wr wq g 256 ∧ Pair w wq d r (fun j => j = X ∨ j = g) M' N') (fun i _ => 256 - (intOf i).toNat)
              case atStart => exact ⟨0, by omega, rfl, HP6.out.2, HP6.out.1⟩
              case round =>
                obtain ⟨t, ht, rfl, hwr, hpr⟩ := hrel
                clear HP6
                by_cases htl : t < 256
                · obtain ⟨⟨c, hc⟩, hf⟩ := hwr.2 t htl
                  have hti : (t : Int) < 256 := by omega
                  have HY := (show Hid (Wr wr g 256 ∧ Pair w wr d r (fun j => j = X ∨ j = g) M' N') from ⟨hwr, hpr⟩)
                  clear hwr hpr
                  go_wp2
                  go_roundw
                  case rel => exact ⟨t + 1, by omega, by go_num, HY.out.1.set t 3, HY.out.2.go ((Turn.refl _ _).setCell (.inr rfl) _) (fun j hj => by rcases hj with hj | hj <;> omega) (fun j hj => .inl hj)⟩
                  case measure => simp [intOf]; omega
                · have hti : ¬ (t : Int) < 256 := by omega
                  have HY := (show Hid (Pair w wr d r (fun j => j = X ∨ j = g) M' N') from hpr)
                  clear hwr hpr
                  go_wp2
                  go_meet
                  case rel => exact ⟨rfl, d, r, M', N', rfl, rfl, HY.out.less (fun j hj => hj.elim), HZ.out.1, HZ.out.2.1, HZ.out.2.2.1, HZ.out.2.2.2⟩
          by_cases k1 : kd = 1
          · as_aux_lemma =>
              subst k1
              clear k0
              have hrd := p_read o.i HP.out HS.out.1
              have hrr0 : ∀ w4, Below W.heap.size W w4 → Calls Try.prog 18 #[.pointer (some ⟨r, 0, none⟩), .int .i64 o.i] w4 fun e w' => e = .returned (.tuple #[.string (N.rd o.i).1, .int .i64 (N.rd o.i).2]) ∧ w4 = w' := fun w4 hb4 => p_rread o.i (HP.out.below hb4) (by rw [HS.out.1.c]; have := HS.out.2.2.1; omega)
              have hs256 := rd_size HS.out.1 HS.out.2.2.2.2 o.i
              obtain ⟨s, hs⟩ : ∃ s, s = (N.rd o.i).1 := ⟨_, rfl⟩
              obtain ⟨c, hc⟩ : ∃ c, c = (N.rd o.i).2 := ⟨_, rfl⟩
              rw [← hs, ← hc] at hrd
              rw [← hs, ← hc] at hrr0
              rw [← hs] at hs256
              have HRR := (show Hid _ from hrr0)
              clear hs hc hrr0
              go_wp2_with fail
              refine Calls.mono hrd ?_
              rintro e w4 ⟨xa, xc, rfl, hb4, hx⟩
              have hX4 := (hb4.block wr.heap.size (by omega)).trans HX.out
              have y1 := cell_blk hX4 1
              simp only [List.getElem?_toArray] at y1
              have hrr := HRR.out w4 hb4
              have hby : Bytes w4 xa s.data.toList := by
                rcases hx with ⟨_, hs0⟩ | ⟨g, rfl, hf, _⟩
                · rw [hs0]; exact .inl rfl
                · exact hf.bytes
              have hcv := convert_bytes w4 xa xc s.data.toList hby
              rw [show s.data.toList.length = s.size from by simp, show (⟨s.data.toList.toArray⟩ : ByteArray) = s from by simp] at hcv
              have hss : (s.toList == s.toList) = true := by simp
              have hcc : (c == c) = true := by simp
              have hP4 : Pair w w4 d r (fun j => j = wr.heap.size ∨ xa = some ⟨j, 0, none⟩) M N := HP.out.wider hb4 (fun j hj => by
                rcases hj with hj | hj
                · exact .inl hj
                · right
                  rcases hx with ⟨h0, _⟩ | ⟨g, h0, hf, hg⟩
                  · rw [h0] at hj; simp at hj
                  · rw [h0] at hj
                    simp only [Option.some.injEq, Addr.mk.injEq, and_true] at hj
                    subst hj
                    exact ⟨hg, hf.lt⟩)
              have HXA : Hid ((s.size = 0 ∨ ∃ g, xa = some ⟨g, 0, none⟩) ∧ (∀ g, xa = some ⟨g, 0, none⟩ → Wr w4 g s.size ∧ w.heap.size ≤ g)) := by
                refine ⟨?_, ?_⟩
                · rcases hx with ⟨_, hs0⟩ | ⟨g, h0, hf, _⟩
                  · rw [hs0]; exact .inl rfl
                  · exact .inr ⟨g, h0⟩
                · intro g hg
                  rcases hx with ⟨h0, _⟩ | ⟨g', h0, hf, hg'⟩
                  · rw [h0] at hg; simp at hg
                  · rw [h0] at hg
                    simp only [Option.some.injEq, Addr.mk.injEq, and_true] at hg
                    subst hg
                    exact ⟨hf.wr, by omega⟩
              have HP4 := (show Hid (Pair w w4 d r (fun j => j = wr.heap.size ∨ xa = some ⟨j, 0, none⟩) M N) from hP4)
              clear hrd hb4 hx hX4 HRR hby hP4
              go_wp2_with fail
              refine Calls.mono hrr ?_
              rintro e w5 ⟨rfl, rfl⟩
              clear hrr
              obtain ⟨X, hX⟩ : ∃ X, X = wr.heap.size := ⟨_, rfl⟩
              rw [← hX] at HP4 hwX
              have HXX : Hid (X = wr.heap.size) := hX
              clear hX
              go_wp2
              go_loopw [18] (fun i wq => ∃ t : Nat, t ≤ s.size ∧ i = .int .i64 t ∧ (∀ g, xa = some ⟨g, 0, none⟩ → Wr wq g s.size) ∧ Pair w wq d r (fun j => j = X ∨ xa = some ⟨j, 0, none⟩) M N) (fun i _ => s.size - (intOf i).toNat)
              case atStart => exact ⟨0, Nat.zero_le _, rfl, fun g hg => (HXA.out.2 g hg).1, HP4.out⟩
              case round =>
                obtain ⟨t, ht, rfl, hwr, hpr⟩ := hrel
                clear HP4
                by_cases htl : t < s.size
                · obtain ⟨g, rfl⟩ := HXA.out.1.resolve_left (by omega)
                  obtain ⟨⟨c, hc⟩, hf⟩ := (hwr g rfl).2 t htl
                  have hti : (t : Int) < (s.size : Int) := by omega
                  have hgw := (HXA.out.2 g rfl).2
                  have HY := (show Hid (Wr wr g s.size ∧ Pair w wr d r (fun j => j = X ∨ some (⟨g, 0, none⟩ : Addr) = some ⟨j, 0, none⟩) M N) from ⟨hwr g rfl, hpr⟩)
                  clear hwr hpr hcv
                  go_wp2
                  go_roundw
                  case rel =>
                    refine ⟨t + 1, by omega, by go_num, ?_, HY.out.2.go ((Turn.refl _ _).setCell (.inr rfl) _) (fun j hj => ?_) (fun j hj => .inl hj)⟩
                    · intro g' hg'
                      simp only [Option.some.injEq, Addr.mk.injEq, and_true] at hg'
                      subst hg'
                      exact HY.out.1.set t 4
                    · rcases hj with hj | hj
                      · omega
                      · simp only [Option.some.injEq, Addr.mk.injEq, and_true] at hj
                        omega
                  case measure => simp [intOf]; omega
                · have hti : ¬ (t : Int) < (s.size : Int) := by omega
                  have HY := (show Hid (Pair w wr d r (fun j => j = X ∨ xa = some ⟨j, 0, none⟩) M N) from hpr)
                  clear hwr hpr
                  go_wp2
                  go_meet
                  case rel => exact ⟨rfl, d, r, M, N, rfl, rfl, HY.out.less (fun j hj => hj.elim), HS.out.1, HS.out.2.1, by have := HS.out.2.2.1; omega, HS.out.2.2.2.2⟩
          by_cases k2 : kd = 2
          · as_aux_lemma =>
              subst k2
              clear k0 k1
              have hfl := p_flush HP.out (by have := HS.out.2.2.1; omega)
              obtain ⟨z1, z2⟩ := sim_flush HS.out.1 HS.out.2.2.2.1
              obtain ⟨v, hv⟩ : ∃ v, v = M.flush.1 := ⟨_, rfl⟩
              rw [← hv] at hfl z1
              have hvv : (v == v) = true := by simp
              have HZ : Hid (v = N.flush.1 ∧ Sim M.flush.2 N.flush.2) := ⟨z1, z2⟩
              clear hv z1 z2
              go_wp2_with fail
              refine Calls.mono hfl ?_
              rintro e w4 ⟨rfl, hP4, hk4⟩
              have hrf := p_rflush hP4 (by rw [HS.out.1.c]; have := HS.out.2.2.1; omega)
              rw [← HZ.out.1] at hrf
              clear hfl hk4 hP4
              go_wp2_with fail
              refine Calls.mono hrf ?_
              rintro e w5 ⟨rfl, hP5, hk5⟩
              have HP5 : Hid (Pair w w5 d r (fun j => j = wr.heap.size) M.flush.2 N.flush.2) := hP5
              clear hrf hk5 hP5
              go_wp2
              go_meet
              case rel => exact ⟨rfl, d, r, _, _, rfl, rfl, HP5.out.less (fun j hj => hj.elim), HZ.out.2, by rw [flush_len]; exact HS.out.2.1, by have := flush_top M; have := HS.out.2.2.1; omega, HS.out.2.2.2.2.flush⟩
          by_cases k3 : kd = 3
          · as_aux_lemma =>
              subst k3
              clear k0 k1 k2
              have hcr := p_crash (cap := o.kc) HP.out HQ.out.1 (by have := HS.out.2.2.1; omega)
              go_wp2_with fail
              refine Calls.mono hcr ?_
              rintro e w4 ⟨rfl, hP4, hk4⟩
              have hb4 := (hk4 wr.heap.size rfl).trans HX.out
              have y5 := cell_blk hb4 5
              simp only [List.getElem?_toArray] at y5
              have hrc := p_rcrash (cap := o.kc) hP4 HQ.out.1 (by rw [HS.out.1.c]; have := HS.out.2.2.1; omega)
              clear hcr hk4 hP4 hb4
              go_wp2_with fail
              refine Calls.mono hrc ?_
              rintro e w5 ⟨rfl, hP5, hk5⟩
              have HP5 : Hid (Pair w w5 d r (fun j => j = wr.heap.size) (M.crash o.keep) (N.crash o.keep)) := hP5
              clear hrc hk5 hP5
              go_wp2
              go_meet
              case rel => exact ⟨rfl, d, r, _, _, rfl, rfl, HP5.out.less (fun j hj => hj.elim), sim_crash HS.out.1 _, by show (app _ _).length = m; rw [app_length]; exact HS.out.2.1, by show ([] : List (Nat × ByteArray)).length ≤ _; simp, HS.out.2.2.2.2.crash _⟩
          by_cases k4 : kd = 4
          · as_aux_lemma =>
              subst k4
              clear k0 k1 k2 k3
              have hfu := p_fuse o.a HP.out HQ.out.2.1.2
              go_wp2_with fail
              refine Calls.mono hfu ?_
              rintro e w4 ⟨rfl, hP4, hk4⟩
              have hb4 := (hk4 wr.heap.size rfl).trans HX.out
              have y2 := cell_blk hb4 2
              simp only [List.getElem?_toArray] at y2
              obtain ⟨hP5, t1, t2⟩ := p_rfuse o.a hP4 HQ.out.2.1.2
              have HP5 : Hid (Pair w (w4.setCell ⟨r, 2, none⟩ (.int .i64 (max o.a (-1)))) d r (fun j => j = wr.heap.size) (M.fuse o.a) (N.fuse o.a)) := hP5
              clear hfu hk4 hP4 hb4 hP5
              go_wp2
              go_meet
              case rel => exact ⟨rfl, d, r, _, _, rfl, rfl, HP5.out.less (fun j hj => hj.elim), sim_fuse HS.out.1 _, (fuse_len M o.a).1.trans HS.out.2.1, by have := (fuse_len M o.a).2; have := HS.out.2.2.1; omega, HS.out.2.2.2.2.fuse _⟩
          by_cases k5 : kd = 5
          · as_aux_lemma =>
              subst k5
              clear k0 k1 k2 k3 k4
              have hcp := p_copy HP.out (by have := HS.out.2.2.1; omega)
              go_wp2_with fail
              refine Calls.mono hcp ?_
              rintro e w4 ⟨d2, rfl, hP4⟩
              have hrc := p_rcopy hP4 (by rw [HS.out.1.c]; have := HS.out.2.2.1; omega)
              clear hcp hP4
              go_wp2_with fail
              refine Calls.mono hrc ?_
              rintro e w5 ⟨r2, rfl, hP5⟩
              have HP5 : Hid (Pair w w5 d2 r2 (fun j => j = wr.heap.size) M N) := hP5
              clear hrc hP5
              go_wp2
              go_meet
              case rel => exact ⟨rfl, d2, r2, _, _, rfl, rfl, HP5.out.less (fun j hj => hj.elim), HS.out.1, HS.out.2.1, by have := HS.out.2.2.1; omega, HS.out.2.2.2.2⟩
          by_cases k6 : kd = 6
          · as_aux_lemma =>
              subst k6
              clear k0 k1 k2 k3 k4 k5
              obtain ⟨n6, hn6, hn6b⟩ : ∃ n6 : Nat, Int.tmod (max 0 o.z) 600 = (n6 : Int) ∧ n6 < 600 := ⟨(Int.tmod (max 0 o.z) 600).toNat, by rw [Int.tmod_eq_emod_of_nonneg (by omega)]; omega, by rw [Int.tmod_eq_emod_of_nonneg (by omega)]; omega⟩
              have hn6c : (max 0 o.z) % 600 = (n6 : Int) := by rw [← hn6, Int.tmod_eq_emod_of_nonneg (by omega)]
              obtain ⟨i5, hi5, hw0, hw1, hw2⟩ := info_parts info5
              have hm5 : i5.bytes * n6 ≤ 281474976710656 := by rw [hw2]; omega
              obtain ⟨nl, hnl⟩ : ∃ nl : List UInt8, nl = List.replicate n6 0 := ⟨_, rfl⟩
              have hnll : nl.length = n6 := by rw [hnl, List.length_replicate]
              have HSZ : Hid (W.heap.size = wr.heap.size + 1) := hsz
              clear hsz
              go_upto_region 39 with (at_make; refine wpList_make_full _ rfl _ _ 31 rfl W.heap.size 5 i5 (.int .u8 0) 1 Try.underlying31 hi5 hw0 hw1 _ _ _ _ n6 rfl rfl (by first | exact hn6 | exact hn6c | rfl | omega) (by first | exact hn6 | exact hn6c | rfl | omega) hm5 (by unfold maxLen; omega) (Nat.le_refl _) ?_; intro w4 ho4 hgr4; rw [made_bytes, ← hnl] at ho4)
              have hsz := HSZ.out
              have hb4 : Below W.heap.size W w4 := (Below.refl _ _).grown hgr4 (Nat.le_refl _) (by simp)
              have hlt4 : W.heap.size < w4.heap.size := (owns_lt ho4 _ rfl).2
              have HO4 := (show Hid (w4.ownsRow W.heap.size 5 1 (.slice (some ⟨W.heap.size, 0, none⟩) n6 n6) n6 (bcs nl)) from ho4)
              obtain ⟨g, hg⟩ : ∃ g, g = W.heap.size := ⟨_, rfl⟩
              obtain ⟨y, hy⟩ : ∃ y : ByteArray, y = ⟨nl.toArray⟩ := ⟨_, rfl⟩
              rw [← hg] at HO4 hlt4 ⊢
              have hP4 : Pair w w4.drew d r (fun j => j = wr.heap.size ∨ j = g) M N := (HP.out.wider (K' := fun j => j = wr.heap.size ∨ j = g) hb4 (fun j hj => by rcases hj with hj | hj; exact .inl hj; exact .inr ⟨by omega, by omega⟩)).below (Below.refl _ _).drew
              have hX4 : w4.heap[wr.heap.size]? = _ := (hb4.block wr.heap.size (by omega)).trans HX.out
              have hw11 := p_write (cap := n6) o.i hP4 (.inr rfl) (l := nl) (own_bytes (w := w4.drew) HO4.out) (by have := HS.out.2.2.1; omega)
              rw [hnll, ← hy] at hw11
              obtain ⟨z1, z2⟩ := sim_wr HS.out.1 HS.out.2.2.2.1 o.i y
              have z3 := wr_len M o.i y
              obtain ⟨v, hv⟩ : ∃ v, v = (M.wr o.i y).1 := ⟨_, rfl⟩
              rw [← hv] at hw11 z1
              have hvv : (v == v) = true := by simp
              obtain ⟨M', hM'⟩ : ∃ M', M' = (M.wr o.i y).2 := ⟨_, rfl⟩
              obtain ⟨N', hN'⟩ : ∃ N', N' = (N.wr o.i y).2 := ⟨_, rfl⟩
              rw [← hM'] at hw11 z2 z3
              rw [← hN'] at z2
              have HF : Hid (∀ w5 : World, (∀ j, (j = wr.heap.size ∨ j = g) → w5.heap[j]? = w4.heap[j]?) → w5.cell? ⟨wr.heap.size, 1, none⟩ = some (.int .i64 o.i) ∧ (convert 31 9 (.slice (some ⟨g, 0, none⟩) n6 n6)).run Try.prog w5 = .ok (.string y) w5 ∧ Wr w5 g n6) := by
                intro w5 h5
                have hb5 := (h5 wr.heap.size (.inl rfl)).trans hX4
                have ho5 : w5.ownsRow g 5 1 (.slice (some ⟨g, 0, none⟩) n6 n6) n6 (bcs nl) := owns_other (owns_base HO4.out fun j hj => by simp [Value.ownBlock] at hj; omega) fun j hj => by
                  obtain rfl : g = j := by simpa [Value.ownBlock] using hj
                  exact h5 g (.inr rfl)
                have hcv := convert_bytes w5 (some ⟨g, 0, none⟩) n6 nl (own_bytes ho5)
                rw [hnll, ← hy] at hcv
                exact ⟨cell_blk hb5 1, hcv, own_wr ho5 hnll.symm (owns_lt ho5 _ rfl).2⟩
              have HR17 : Hid (∀ w5, Pair w w5 d r (fun j => j = wr.heap.size ∨ j = g) M' N → Calls Try.prog 17 #[.pointer (some ⟨r, 0, none⟩), .int .i64 o.i, .string y] w5 fun e w6 => e = .returned (.int .i64 v) ∧ Pair w w6 d r (fun j => j = wr.heap.size ∨ j = g) M' N' ∧ ∀ j, (j = wr.heap.size ∨ j = g) → w6.heap[j]? = w5.heap[j]?) := by
                intro w5 h5
                have := p_rwrite o.i y h5 (by rw [HS.out.1.c]; have := HS.out.2.2.1; omega)
                rw [← z1, ← hN'] at this
                exact this
              have HW11 := (show Hid _ from hw11)
              have HZ : Hid (Sim M' N' ∧ M'.L.length = m ∧ M'.C.length ≤ k + 1 ∧ M'.Full) := ⟨z2, z3.1.trans HS.out.2.1, by have := HS.out.2.2.1; omega, by rw [hM']; exact HS.out.2.2.2.2.wr _ _⟩
              have i0 := (HF.out w4 (fun _ _ => rfl)).1
              have i1 := (HF.out w4.drew (fun _ _ => rfl)).1
              have i2 := (HF.out w4.drew (fun _ _ => rfl)).2.1
              have hKw : w.heap.size ≤ g := by omega
              clear ho4 hb4 hgr4 hP4 hX4 hw11 z1 z2 z3 hv hM' hN' hy hg y2 y3 y4 y5 y1
              go_region_held3 (fun w' => w'.cell? ⟨wr.heap.size, 1, none⟩ = some (.int .i64 o.i) ∧ (convert 31 9 (.slice (some ⟨g, 0, none⟩) n6 n6)).run Try.prog w' = .ok (.string y) w') (go_keep)
                (first
                  | (go_at_call 11; refine Calls.mono HW11.out ?_; rintro e w5 ⟨rfl, hP5, hk5⟩; have s0 := (HF.out w5 hk5).1; have s1 := (HF.out w5 hk5).2.1)
                  | (go_at_call 17; refine Calls.mono (HR17.out _ hP5) ?_; rintro e w6 ⟨rfl, hP6, hk6⟩; have s2 := (HF.out w6 (fun j hj => (hk6 j hj).trans (hk5 j hj))).1; have s3 := (HF.out w6 (fun j hj => (hk6 j hj).trans (hk5 j hj))).2.1))
              have HP6 : Hid (Pair w w6 d r (fun j => j = wr.heap.size ∨ j = g) M' N') := hP6
              clear hP5 hk5 hP6 hk6 s0 s1 s2 s3 i0 i1 i2 HF HR17 HW11 HO4
              go_wp2
              go_meet
              case rel => exact ⟨rfl, d, r, M', N', rfl, rfl, HP6.out.less (fun j hj => hj.elim), HZ.out.1, HZ.out.2.1, HZ.out.2.2.1, HZ.out.2.2.2⟩
          have b0 : (kd == 0) = false := by rw [beq_eq_false_iff_ne]; exact k0
          have b1 : (kd == 1) = false := by rw [beq_eq_false_iff_ne]; exact k1
          have b2 : (kd == 2) = false := by rw [beq_eq_false_iff_ne]; exact k2
          have b3 : (kd == 3) = false := by rw [beq_eq_false_iff_ne]; exact k3
          have b4 : (kd == 4) = false := by rw [beq_eq_false_iff_ne]; exact k4
          have b5 : (kd == 5) = false := by rw [beq_eq_false_iff_ne]; exact k5
          have b6 : (kd == 6) = false := by rw [beq_eq_false_iff_ne]; exact k6
          clear k0 k1 k2 k3 k4 k5 k6
          go_wp2
          go_meet
          case rel => exact ⟨rfl, d, r, M, N, rfl, rfl, HP.out.less (fun j hj => hj.elim), HS.out.1, HS.out.2.1, by have := HS.out.2.2.1; omega, HS.out.2.2.2.2⟩
        case rest =>
          obtain ⟨rfl, d, r, M, N, rfl, rfl, hI⟩ := hcut
          have hP := hI.pair.below (w2 := wc.drew) (Below.refl _ _).drew
          obtain ⟨ca, cc, e1, e3⟩ := p_cells hI.pair
          rw [hI.sim.c] at e1
          rw [hI.sim.d] at e3
          have h1 := p_pend hP
          have h2 := p_dead hP
          have h3 := p_size hP
          rw [hI.len] at h3
          obtain ⟨dd, hdd⟩ : ∃ dd, dd = decide (M.st = 2) := ⟨_, rfl⟩
          rw [← hdd] at e3 h2
          obtain ⟨cl, hcl⟩ : ∃ cl, cl = M.C.length := ⟨_, rfl⟩
          rw [← hcl] at e1 h1
          have f1 : wc.drew.cell? ⟨r, 1, none⟩ = some (.slice ca cl cc) := e1
          have f3 : wc.drew.cell? ⟨r, 3, none⟩ = some (.bool dd) := e3
          have n1' : ((cl : Int) != (cl : Int)) = false := by simp
          have n2' : (dd != dd) = false := by simp
          have n3' : ((m : Int) != (m : Int)) = false := by simp
          have HI : Hid (Inv w wc m (k + 1) d r M N) := hI
          have H1 := (show Hid _ from h1)
          have H2 := (show Hid _ from h2)
          have H3 := (show Hid _ from h3)
          clear hP hI h1 h2 h3 hdd hcl HP HX HS HQ y1 y2 y3 y4 y5
          go_wp2
          go_region_held3 (fun w' => w'.cell? ⟨r, 1, none⟩ = some (.slice ca cl cc) ∧ w'.cell? ⟨r, 3, none⟩ = some (.bool dd)) (go_keep)
            (first
              | (go_at_call 23; refine Calls.mono H1.out ?_; rintro e w5 ⟨rfl, rfl⟩)
              | (go_at_call 13; refine Calls.mono H2.out ?_; rintro e w5 ⟨rfl, rfl⟩)
              | (go_at_call 24; refine Calls.mono H3.out ?_; rintro e w5 ⟨rfl, rfl⟩))
          go_wp2
          go_roundw
          case rel => exact ⟨k + 1, by omega, by omega, by go_num, d, r, M, N, rfl, rfl, HI.out.pair.below (Below.refl _ _).drew, HI.out.sim, HI.out.len, HI.out.top, HI.out.full⟩
          case measure => simp [intOf]; omega
      · have HLT := (show Hid (¬ (k < l.length ∧ k < 80)) from hlt)
        have HOLD : Hid (Below w.heap.size w wr) := hI.pair.old
        clear hI hlt
        go_upto_region 6 with fail
        go_cut [55] (fun s w' => s = .bool false ∧ w' = wr)
        case first =>
          by_cases hc : k < l.length
          · have hc1 : (k : Int) < (l.length : Int) := by omega
            have hc2 : ¬ (k : Int) < 80 := by have := HLT.out; omega
            go_wp2
            go_meet
            case rel => exact ⟨rfl, rfl⟩
          · have hc1 : ¬ (k : Int) < (l.length : Int) := by omega
            go_wp2
            go_meet
            case rel => exact ⟨rfl, rfl⟩
        case rest =>
          obtain ⟨rfl, rfl⟩ := hcut
          go_wp2
          go_ret
          exact ⟨rfl, HOLD.out⟩
  · have hnb : n < 1 ∨ 4096 < n := by omega
    have hnew := new_bad n w hnb
    have hrn := refnew_bad n w hnb
    have haw := awake_any w
    clear hb hn0 hn hnb
    go_enter Try.func4, Try.ntmps4
    go_wp2_with (first
      | (go_at_call 7; refine Calls.mono hnew ?_; rintro e w1 ⟨rfl, rfl⟩)
      | (go_at_call 16; refine Calls.mono hrn ?_; rintro e w1 ⟨rfl, rfl⟩)
      | (go_at_call 8; refine Calls.mono haw ?_; rintro e w1 ⟨rfl, hb1⟩))
    go_loopw [9, 5] (fun i dv wr => i = .int .i64 0 ∧ dv = .pointer none ∧ wr = w1) (fun _ _ _ => 0)
    case atStart => exact ⟨rfl, rfl, rfl⟩
    case round =>
      obtain ⟨rfl, rfl, rfl⟩ := hrel
      by_cases hc : 0 < l.length
      · have hc1 : (0 : Int) < (l.length : Int) := by omega
        go_wp2
        go_ret
        exact ⟨rfl, hb1⟩
      · have hc1 : ¬ (0 : Int) < (l.length : Int) := by omega
        go_wp2
        go_ret
        exact ⟨rfl, hb1⟩
end Go.Proofs.Ythmjejmkkllbaaa
