/-
  The law's comparison of two devices that do alike: true.
-/
import Derived.Test.YtecljiefljgfmaaRun10
import Derived.Test.YtecljiefljgfmaaRun03
import Derived.Test.YtecljiefljgfmaaRun06
import Derived.Test.YtecljiefljgfmaaRun07
import Derived.Test.YtecljiefljgfmaaRun04
import Derived.Test.YtecljiefljgfmaaRun05
namespace Go.Proofs.Ytecljiefljgfmaa
open Go.RowKit

theorem p_cell0 {w wr : World} {d r : Nat} {K : Nat → Prop} {M : D} {N : R} (h : Pair w wr d r K M N) : ∃ ca cc, wr.cell? ⟨r, 0, none⟩ = some (.slice ca N.L.length cc) := by
  obtain ⟨F, G, h1, h2, _⟩ := h
  obtain ⟨gl, cl, ca, cc, hV, _⟩ := h2.open
  exact ⟨_, _, cell_blk hV.blk 0⟩
theorem p_rlt {w wr : World} {d r : Nat} {K : Nat → Prop} {M : D} {N : R} (h : Pair w wr d r K M N) : r < wr.heap.size := by
  obtain ⟨F, G, h1, h2, _⟩ := h
  obtain ⟨gl, cl, ca, cc, hV, _⟩ := h2.open
  exact (Array.getElem?_eq_some_iff.1 hV.blk).1

set_option maxHeartbeats 4000000 in
set_option maxRecDepth 20000 in
theorem same_any {w ws : World} {d r : Nat} {K : Nat → Prop} {M : D} {N : R} (h : Pair w ws d r K M N) (hs : Sim M N) (hC : M.C.length ≤ 100000) :
    Calls Try.prog 28 #[.pointer (some ⟨d, 0, none⟩), .pointer (some ⟨r, 0, none⟩)] ws fun e w' => e = .returned (.bool true) ∧ Below ws.heap.size ws w' := by
  have hNL : N.L.length ≤ 4096 := by rw [hs.l]; exact h.ok.top
  have hNW : N.W.length ≤ 100000 := by rw [hs.c]; exact hC
  obtain ⟨n, hn⟩ : ∃ n, n = N.L.length := ⟨_, rfl⟩
  obtain ⟨ca, cc, hc0⟩ := p_cell0 h
  obtain ⟨cb, cd, hc1, _⟩ := p_cells h
  rw [← hn] at hc0 hNL
  have hrl := p_rlt h
  have HC0 : Hid (∀ q, Below ws.heap.size ws q → q.cell? ⟨r, 0, none⟩ = some (.slice ca n cc) ∧ q.cell? ⟨r, 1, none⟩ = some (.slice cb N.W.length cd) ∧ Below ws.heap.size ws q) := fun q hq => ⟨(hq.cell (p := ⟨r, 0, none⟩) hrl).trans hc0, (hq.cell (p := ⟨r, 1, none⟩) hrl).trans hc1, hq⟩
  have HRD : Hid (∀ q (k : Nat), Below ws.heap.size ws q → Calls Try.prog 58 #[.pointer (some ⟨d, 0, none⟩), .int .i64 (k : Int)] q fun e w' => ∃ a cap, e = .returned (.tuple #[.slice a (N.rd k).1.size cap, .int .i64 (N.rd k).2]) ∧ Below ws.heap.size ws w' ∧ (convert 50 9 (.slice a (N.rd k).1.size cap)).run Try.prog w' = .ok (.string (N.rd k).1) w' ∧
      Calls Try.prog 59 #[.pointer (some ⟨r, 0, none⟩), .int .i64 (k : Int)] w' fun e w'' => e = .returned (.tuple #[.string (N.rd k).1, .int .i64 (N.rd k).2]) ∧ w' = w'') := (by
    intro q k hq
    have hp := h.below hq
    refine Calls.mono (p_read (k : Int) hp hs) ?_
    rintro e w' ⟨a, cap, rfl, hb, hby⟩
    refine ⟨a, cap, rfl, hq.trans (hb.mono hq.size), ?_, p_rread (k : Int) (hp.below hb) hNW⟩
    have hbb : Bytes w' a (N.rd k).1.data.toList := by
      rcases hby with ⟨rfl, e⟩ | ⟨g, rfl, hf, _⟩
      · rw [e]; exact .inl rfl
      · exact hf.bytes
    have := convert_bytes w' a cap _ hbb
    simpa using this)
  have HPE : Hid (∀ q, Below ws.heap.size ws q → Calls Try.prog 29 #[.pointer (some ⟨d, 0, none⟩)] q fun e w' => e = .returned (.int .i64 (N.W.length : Int)) ∧ q = w') := fun q hq => by
    have := p_pend (h.below hq)
    rwa [← hs.c] at this
  obtain ⟨nw, hnw⟩ : ∃ nw, nw = N.W.length := ⟨_, rfl⟩
  rw [← hnw] at HC0 HPE
  clear h hs hC hc0 hc1 hrl hn hNW hnw
  go_enter Try.func28, Try.ntmps28
  go_wp2
  go_loopw [5] (fun i q => ∃ k : Nat, k ≤ n ∧ i = .int .i64 k ∧ Below ws.heap.size ws q) (fun i _ => n - (intOf i).toNat)
  case atStart => exact ⟨0, Nat.zero_le _, rfl, Below.refl _ _⟩
  case round =>
    obtain ⟨k, hk, rfl, hbw⟩ := hrel
    obtain ⟨c0, c1, _⟩ := HC0.out wr hbw
    by_cases hlt : k < n
    · have hki : (k : Int) < (n : Int) := by omega
      have hrd := HRD.out wr k hbw
      obtain ⟨x, hx⟩ : ∃ x, x = (N.rd k).1 := ⟨_, rfl⟩
      obtain ⟨ev, hev⟩ : ∃ ev, ev = (N.rd k).2 := ⟨_, rfl⟩
      rw [← hx, ← hev] at hrd
      obtain ⟨sz, hsz⟩ : ∃ sz, sz = x.size := ⟨_, rfl⟩
      rw [← hsz] at hrd
      clear hx hev hsz
      go_wp2_with (first
        | (go_at_call 58; (with_reducible refine Calls.mono hrd ?_); rintro e w5 ⟨a5, c5, rfl, hb5, hcv5, hrr5⟩)
        | (go_at_call 59; (with_reducible refine Calls.mono hrr5 ?_); rintro e w6 ⟨rfl, rfl⟩))
      go_roundw
      case rel => exact ⟨k + 1, by omega, by go_num, hb5⟩
      case measure => simp [intOf]; omega
    · obtain rfl : k = n := by omega
      have hpe := HPE.out wr.drew hbw.drew
      have d1 : wr.drew.cell? ⟨r, 1, none⟩ = some (.slice cb nw cd) := c1
      go_wp2
      go_region_held3 (fun w' => w'.cell? ⟨r, 1, none⟩ = some (.slice cb nw cd)) (go_keep)
        (first
          | (go_at_call 29; (with_reducible refine Calls.mono hpe ?_); rintro e w5 ⟨rfl, rfl⟩))
      go_wp2
      go_ret
      exact ⟨by simp, hbw.drew⟩
end Go.Proofs.Ytecljiefljgfmaa
/-
  Whether both slots are a device's: the code's within and the document's region.
-/
namespace Go.Proofs.Ytecljiefljgfmaa
open Go.RowKit

def regB (L : Nat) (p n : Int) : Bool := decide (1 ≤ n ∧ 0 ≤ p ∧ p ≤ (L : Int) - 2 * n)
def witB (L : Nat) (p n : Int) : Bool := decide (0 ≤ n ∧ 0 ≤ p ∧ p ≤ (L : Int) - n)

theorem within_any (d : Nat) (p n : Int) (w : World) (F : Nat → Prop) (M : D) (h : Dev w F d M) (hn : n ≤ 9223372036854775807) :
    Calls Try.prog 41 #[.pointer (some ⟨d, 0, none⟩), .int .i64 p, .int .i64 n] w fun e w' => e = .returned (.bool (witB M.L.length p n)) ∧ w = w' := by
  have hsz := size_any d w F M h
  have htop := h.1.top
  obtain ⟨k, hk⟩ : ∃ k, k = M.L.length := ⟨_, rfl⟩
  rw [← hk] at hsz htop ⊢
  clear h hk
  by_cases h1 : 0 ≤ n
  · by_cases h2 : 0 ≤ p
    · have HE : Hid (witB k p n = decide (p ≤ (k : Int) - n)) := (show _ = _ from by simp [witB, h1, h2])
      rw [HE.out]
      clear HE
      go_enter Try.func41, Try.ntmps41
      go_wp2_with (go_at_call 73; refine Calls.mono hsz ?_; rintro e w1 ⟨rfl, rfl⟩)
      go_ret
      exact ⟨rfl, rfl⟩
    · have HE : Hid (witB k p n = false) := (show _ = _ from by simp [witB]; omega)
      rw [HE.out]
      go_enter Try.func41, Try.ntmps41
      go_wp2
      go_ret
      exact ⟨rfl, rfl⟩
  · have HE : Hid (witB k p n = false) := (show _ = _ from by simp [witB]; omega)
    rw [HE.out]
    go_enter Try.func41, Try.ntmps41
    go_wp2
    go_ret
    exact ⟨rfl, rfl⟩

theorem swithin_any (d : Nat) (p n : Int) (w : World) (F : Nat → Prop) (M : D) (h : Dev w F d M) (hn : n ≤ 9223372036854775807) :
    Calls Try.prog 60 #[.pointer (some ⟨d, 0, none⟩), .int .i64 p, .int .i64 n] w fun e w' => e = .returned (.bool (regB M.L.length p n)) ∧ w = w' := by
  have hw1 := within_any d p n w F M h hn
  have hw2 := within_any d (p + n) n w F M h hn
  have htop := h.1.top
  obtain ⟨k, hk⟩ : ∃ k, k = M.L.length := ⟨_, rfl⟩
  rw [← hk] at hw1 hw2 htop ⊢
  clear h hk
  by_cases h1 : 1 ≤ n
  · cases hb : witB k p n with
    | true =>
      have hb' := hb
      simp only [witB, decide_eq_true_eq] at hb'
      rw [hb] at hw1
      have HE : Hid (regB k p n = witB k (p + n) n) := (show _ = _ from by simp only [regB, witB, decide_eq_decide]; omega)
      rw [HE.out]
      obtain ⟨x, hx⟩ : ∃ x, x = witB k (p + n) n := ⟨_, rfl⟩
      rw [← hx] at hw2 ⊢
      have hpn : p + n ≤ 9223372036854775807 := by omega
      have hpn0 : 0 ≤ p + n := by omega
      clear hb hx HE
      go_enter Try.func60, Try.ntmps60
      go_wp2_with (first | (go_at_call 41; (with_reducible refine Calls.mono hw1 ?_); rintro e w1 ⟨rfl, rfl⟩) | (go_at_call 41; (with_reducible refine Calls.mono hw2 ?_); rintro e w1 ⟨rfl, rfl⟩))
      go_ret
      exact ⟨rfl, rfl⟩
    | false =>
      rw [hb] at hw1
      have HE : Hid (regB k p n = false) := (show _ = _ from by
        simp only [witB, decide_eq_false_iff_not] at hb
        simp only [regB, decide_eq_false_iff_not]
        omega)
      rw [HE.out]
      clear hb
      go_enter Try.func60, Try.ntmps60
      go_wp2_with (go_at_call 41; (with_reducible refine Calls.mono hw1 ?_); rintro e w1 ⟨rfl, rfl⟩)
      go_ret
      exact ⟨rfl, rfl⟩
  · have HE : Hid (regB k p n = false) := (show _ = _ from by simp only [regB, decide_eq_false_iff_not]; omega)
    rw [HE.out]
    go_enter Try.func60, Try.ntmps60
    go_wp2
    go_ret
    exact ⟨rfl, rfl⟩

theorem save_arg (d : Nat) (p n : Int) (ep : Nat) (v : Value) (w : World) (F : Nat → Prop) (M : D) (h : Dev w F d M) (hn : n ≤ 9223372036854775807) (hr : regB M.L.length p n = false) :
    Calls Try.prog 31 #[.pointer (some ⟨d, 0, none⟩), .int .i64 p, .int .i64 n, .int .u64 (ep : Int), v] w fun e w' => e = .returned (.int .i64 1) ∧ w = w' := by
  have hw := swithin_any d p n w F M h hn
  rw [hr] at hw
  go_enter Try.func31, Try.ntmps31
  go_wp2_with (go_at_call 60; refine Calls.mono hw ?_; rintro e w1 ⟨rfl, rfl⟩)
  go_ret
  exact ⟨rfl, rfl⟩

theorem region_any {w wr : World} {d r : Nat} {K : Nat → Prop} {M : D} {N : R} (h : Pair w wr d r K M N) (p n : Int) (hn : n ≤ 9223372036854775807) (hp : p ≤ 9223372036854775807) (hp0 : -9223372036854775808 ≤ p) (hL : N.L.length ≤ 4096) :
    Calls Try.prog 63 #[.pointer (some ⟨r, 0, none⟩), .int .i64 p, .int .i64 n] wr fun e w' => e = .returned (.bool (regB N.L.length p n)) ∧ Below wr.heap.size wr w' := by
  obtain ⟨ca, cc, hc0⟩ := p_cell0 h
  obtain ⟨k, hk⟩ : ∃ k, k = N.L.length := ⟨_, rfl⟩
  rw [← hk] at hc0 hL ⊢
  clear h hk
  go_enter Try.func63, Try.ntmps63
  go_wp2
  all_goals
    (go_ret
     refine ⟨?_, Below.refl _ _⟩
     first
       | (rw [show regB k p n = false from by simp only [regB, decide_eq_false_iff_not]; omega]; rfl)
       | (rw [show regB k p n = decide (p ≤ (k : Int) - 2 * n) from by simp only [regB, decide_eq_decide]; omega]; rfl))
end Go.Proofs.Ytecljiefljgfmaa
/-
  The document's Four, Pack and Put64 by their contracts.
-/
namespace Go.Proofs.Ytecljiefljgfmaa
open Go.RowKit

theorem cell_list_new (w : World) (cs : List Value) (t : TypeId) : ∀ j u, cs[j]? = some u → (w.alloc (.cells cs.toArray t)).cell? ((⟨w.heap.size, 0, none⟩ : Addr).add j) = some u := by
  intro j u hj
  rw [Addr.add_lit, World.cell?_alloc_mark]
  simpa using hj
theorem be4_cells (n : Nat) (hn : n < 4294967296) : bcs (be n 4) = [.int .u8 ((n : Int) / 16777216), .int .u8 ((n : Int) / 65536 % 256), .int .u8 ((n : Int) / 256 % 256), .int .u8 ((n : Int) % 256)] := by
  have e : (n : Int) / 16777216 = (n : Int) / 16777216 % 256 := by omega
  rw [e]
  simp only [bcs, be, List.map_cons, List.map_nil, UInt8.toNat_ofNat']
  simp

set_option maxHeartbeats 400000 in
theorem four_any (n : Nat) (w : World) (hn : n < 4294967296) :
    Calls Try.prog 85 #[.int .u32 (n : Int)] w fun e w' => e = .returned (.slice (some ⟨w.heap.size, 0, none⟩) 4 4) ∧ (∀ j u, (bcs (be n 4))[j]? = some u → w'.cell? ((⟨w.heap.size, 0, none⟩ : Addr).add j) = some u) ∧ Below w.heap.size w w' := by
  go_enter Try.func85, Try.ntmps85
  go_wp2
  go_ret
  refine ⟨rfl, ?_, (Below.refl _ _).alloc (Nat.le_refl _) _⟩
  rw [be4_cells n hn]
  exact cell_list_new w _ 5

set_option maxHeartbeats 800000 in
theorem refPack_any (a : Option Addr) (L : List ByteArray) (cap : Nat) (w : World) (hr : tot L ≤ 8388608) (hs : Strs w a L) :
    Calls Try.prog 50 #[.slice a L.length cap] w fun e w' => ∃ v', e = .returned v' ∧ Own w' w.heap.size v' (packL L) ∧ Below w.heap.size w w' := by
  obtain ⟨i0, hi, hz0, hz1, hz2⟩ := info_parts info5
  have hll : L.length ≤ tot L := by
    clear hr hs
    induction L with
    | nil => simp [tot]
    | cons x r ih => simp only [List.length_cons, tot]; omega
  go_enter Try.func50, Try.ntmps50
  go_wp2
  go_loopw [3, 4] (fun v i wr => ∃ k : Nat, k ≤ L.length ∧ i = .int .i64 k ∧ Own wr w.heap.size v (packL (L.take k)) ∧ Below w.heap.size w wr)
    (fun _ i _ => L.length - (intOf i).toNat)
  case atStart => exact ⟨0, Nat.zero_le _, rfl, World.ownsRow_nil _ _ _ _, Below.refl _ _⟩
  case round =>
    obtain ⟨k, hk, rfl, hown, hnx⟩ := hrel
    have hsz := hnx.size
    have htk := tot_take L k
    by_cases hlt : k < L.length
    · obtain ⟨b, off, rfl, hbl, hcs⟩ := hs.at hlt
      have hcell : wr.cell? ⟨b, off + k, none⟩ = some (.string L[k]) := (hnx.cell (p := ⟨b, off + k, none⟩) hbl).trans (hcs k hlt)
      have HS : Hid (tot (L.take (k + 1)) = tot (L.take k) + (4 + L[k].size)) := tot_snoc L k hlt
      have ht2 : tot (L.take k) + (4 + L[k].size) ≤ tot L := by rw [← HS.out]; exact tot_take L (k + 1)
      go_wp2_with fail
      refine (four_any L[k].size _ (by omega)).mono ?_
      rintro e w1 ⟨rfl, hcells, hb1⟩
      have hz1' := hb1.size
      have hown1 : w1.ownsRow w.heap.size 5 1 u3 (packL (L.take k)).length (bcs (packL (L.take k))) := by
        have hlt2 := World.ownsRow.lt hown
        obtain ⟨q0, ⟨q1, q2⟩ | ⟨g, c', cur, q1, q2, q3, q4⟩⟩ := hown
        · exact ⟨q0, .inl ⟨q1, q2⟩⟩
        · refine ⟨q0, .inr ⟨g, c', cur, q1, q2, ?_, q4⟩⟩
          rw [hb1.block g (hlt2 g (by rw [q1]; rfl)).2]
          exact q3
      have hcell1 : w1.cell? ⟨b, off + k, none⟩ = some (.string L[k]) := (hb1.cell (p := ⟨b, off + k, none⟩) (by show b < _; omega)).trans hcell
      go_wp2_with (at_builtin; refine wpList_append_own _ rfl (.tmp 11) (.tmp 18) 50 rfl w.heap.size 5 i0 (.int .u8 0) 1 1 Try.underlying50 hi hz0 hz1 hz2 rfl (by decide) _ _ _ rfl hown1 ⟨wr.heap.size, 0, none⟩ 4 4 (bcs (be L[k].size 4)) rfl ?d0 ?d1 ?d2 ?d3 ?d4 ?d5 ?_)
      case d0 => rw [bcs_length, be_length]
      case d1 => exact hcells
      case d2 => exact bcs_one _
      case d3 => rw [packL_length]; unfold maxLen; omega
      case d4 => rw [packL_length]; omega
      case d5 => omega
      intro v2 w2 hown2 hgrow2 _
      have hcell2 : w2.cell? ⟨b, off + k, none⟩ = some (.string L[k]) := hgrow2.cell hcell1 (by
        intro hh
        have := (World.ownsRow.lt hown1 b hh.symm).1
        omega)
      have hsz2 := hgrow2.size
      have hB2 : Below w.heap.size w w2 := (hnx.trans (hb1.mono hsz)).grown hgrow2 (by omega) (fun j hj => (World.ownsRow.lt hown1 j hj).1)
      clear hown hown1 hcells hcell hcell1 hgrow2
      go_wp2_with (at_builtin; refine Lib.wpList_append_own_string _ rfl (.tmp 20) (.tmp 24) 50 9 rfl w.heap.size 5 i0 Try.underlying50 Try.underlying9 hi hz0 hz1 hz2 _ _ _ rfl hown2 L[k] rfl ?c1 ?c2 ?c3 ?_)
      case c1 => simp only [packL_length]; unfold maxLen; omega
      case c2 => simp only [packL_length]; omega
      case c3 => omega
      intro v3 w3 hown3 hgrow3 _
      have R : Own w3 w.heap.size v3 (packL (L.take (k + 1))) := by
        have e : packL (L.take (k + 1)) = packL (L.take k) ++ be L[k].size 4 ++ L[k].data.toList := by rw [packL_snoc L k hlt, packOne, List.append_assoc]
        have e2 : (packL (L.take k) ++ be L[k].size 4 ++ L[k].data.toList).length = (packL (L.take k)).length + 4 + L[k].size := by rw [List.length_append, List.length_append, be_length]; simp
        unfold Own
        rw [e, e2, bcs_append, bcs_append, List.append_assoc]
        exact hown3
      have hB3 : Below w.heap.size w w3 := hB2.grown hgrow3 (by omega) (fun j hj => (World.ownsRow.lt hown2 j hj).1)
      clear hown3 hgrow3 hown2 hB2
      go_wp2
      go_roundw
      case rel => exact ⟨k + 1, by omega, by go_num, R, hB3⟩
      case measure => simp [intOf]; omega
    · have hkl : k = L.length := by omega
      subst hkl
      rw [List.take_length] at hown
      go_wp2
      go_ret
      exact ⟨_, rfl, hown, hnx⟩

theorem be_mod (n : Nat) : be (n % 4294967296) 4 = be n 4 := by
  have h : ∀ m k : Nat, k < 4 → UInt8.ofNat (m % 4294967296 / 2 ^ (8 * k)) = UInt8.ofNat (m / 2 ^ (8 * k)) := by
    intro m k hk
    apply UInt8.toNat_inj.1
    rw [UInt8.toNat_ofNat', UInt8.toNat_ofNat']
    match k, hk with
    | 0, _ => simp
    | 1, _ => simp; omega
    | 2, _ => simp; omega
    | 3, _ => simp; omega
  simp only [be, h n 0 (by omega), h n 1 (by omega), h n 2 (by omega), h n 3 (by omega)]
theorem be_8 (n : Nat) : be n 8 = be (n / 4294967296) 4 ++ be n 4 := by
  simp only [be, List.cons_append, List.nil_append, Nat.div_div_eq_div_mul]

theorem own_later {w w1 : World} {base B : Nat} {v : Value} {l : List UInt8} (h : Own w base v l) (hb : Below B w w1) (hB : w.heap.size ≤ B) : Own w1 base v l := by
  have hlt2 := World.ownsRow.lt h
  obtain ⟨q0, ⟨q1, q2⟩ | ⟨g, c', cur, q1, q2, q3, q4⟩⟩ := h
  · exact ⟨q0, .inl ⟨q1, q2⟩⟩
  · refine ⟨q0, .inr ⟨g, c', cur, q1, q2, ?_, q4⟩⟩
    rw [hb.block g (by have := (hlt2 g (by rw [q1]; rfl)).2; omega)]
    exact q3

set_option maxHeartbeats 400000 in
theorem refPut64_any (n : Nat) (w : World) (hn : n < 18446744073709551616) :
    Calls Try.prog 84 #[.int .u64 (n : Int)] w fun e w' => ∃ v', e = .returned v' ∧ Own w' w.heap.size v' (be n 8) ∧ Below w.heap.size w w' := by
  obtain ⟨i0, hi, hz0, hz1, hz2⟩ := info_parts info5
  go_enter Try.func84, Try.ntmps84
  have e1 : ((n : Int) / 4294967296) = ((n / 4294967296 : Nat) : Int) := by omega
  have e2 : ((n : Int) % 4294967296) = ((n % 4294967296 : Nat) : Int) := by omega
  have E1 : Hid (((n : Int) / 4294967296) = ((n / 4294967296 : Nat) : Int)) := e1
  have E2 : Hid (((n : Int) % 4294967296) = ((n % 4294967296 : Nat) : Int)) := e2
  clear e1 e2
  go_wp2_with fail
  rw [E1.out]
  refine (four_any (n / 4294967296) _ (by omega)).mono ?_
  rintro e w1 ⟨rfl, hcells, hb1⟩
  go_wp2_with (at_builtin; refine wpList_append_own _ rfl (.tmp 4) (.tmp 8) 50 rfl w.heap.size 5 i0 (.int .u8 0) 1 1 Try.underlying50 hi hz0 hz1 hz2 rfl (by decide) _ _ _ rfl (World.ownsRow_nil _ _ _ _) ⟨w.heap.size, 0, none⟩ 4 4 (bcs (be (n / 4294967296) 4)) rfl ?d0 ?d1 ?d2 ?d3 ?d4 ?d5 ?_)
  case d0 => rw [bcs_length, be_length]
  case d1 => exact hcells
  case d2 => exact bcs_one _
  case d3 => decide
  case d4 => decide
  case d5 => exact hb1.size
  intro v2 w2 hown2 hgrow2 _
  have hO2 : Own w2 w.heap.size v2 (be (n / 4294967296) 4) := hown2
  have hB2 : Below w.heap.size w w2 := hb1.grown hgrow2 hb1.size (by simp [Value.ownBlock])
  have hz := hB2.size
  clear hown2 hgrow2 hcells hb1
  go_wp2_with fail
  rw [E2.out]
  refine (four_any (n % 4294967296) _ (by omega)).mono ?_
  rintro e w3 ⟨rfl, hcells3, hb3⟩
  have hO3 : Own w3 w.heap.size v2 (be (n / 4294967296) 4) := own_later hO2 hb3 (Nat.le_refl _)
  have hB3 : Below w.heap.size w w3 := hB2.trans (hb3.mono hz)
  have hz3 := hB3.size
  clear hO2 hB2
  go_wp2_with (at_builtin; refine wpList_append_own _ rfl (.tmp 10) (.tmp 13) 50 rfl w.heap.size 5 i0 (.int .u8 0) 1 1 Try.underlying50 hi hz0 hz1 hz2 rfl (by decide) _ _ _ rfl hO3 ⟨w2.heap.size, 0, none⟩ 4 4 (bcs (be (n % 4294967296) 4)) rfl ?f0 ?f1 ?f2 ?f3 ?f4 ?f5 ?_)
  case f0 => rw [bcs_length, be_length]
  case f1 => exact hcells3
  case f2 => exact bcs_one _
  case f3 => rw [be_length]; decide
  case f4 => rw [be_length]; decide
  case f5 => exact hz3
  intro v4 w4 hown4 hgrow4 _
  have R : Own w4 w.heap.size v4 (be n 8) := by
    rw [be_8]
    unfold Own
    rw [List.length_append, be_length, be_length, bcs_append, ← be_mod n]
    exact hown4
  have hB4 : Below w.heap.size w w4 := hB3.grown hgrow4 hz3 (fun j hj => (World.ownsRow.lt hO3 j hj).1)
  clear hown4 hgrow4 hcells3
  go_wp2
  go_ret
  exact ⟨_, rfl, R, hB4⟩
end Go.Proofs.Ytecljiefljgfmaa
/-
  The check sum in plain terms: bit by bit, linear, and no burst of at most 32 bits is lost.
-/
namespace Go.Proofs.Ytecljiefljgfmaa
open Go.RowKit

def b1 (x : Bool) : Wd := if x then 1 else 0
theorem b1_get (x : Bool) (i : Nat) : (b1 x).getLsbD i = (decide (i = 0) && x) := by
  cases x
  · simp [b1]
  · simp [b1]
theorem xor_nought (x : Wd) : x ^^^ 0 = x := BitVec.xor_zero
theorem nought_xor (x : Wd) : 0 ^^^ x = x := BitVec.zero_xor
theorem b1_xor (x y : Bool) : b1 x ^^^ b1 y = b1 (x ^^ y) := by cases x <;> cases y <;> decide

theorem and1_mul (x p : Wd) : (x &&& 1) * p = if x.getLsbD 0 then p else 0 := by
  have e : x &&& 1 = b1 (x.getLsbD 0) := by
    apply BitVec.eq_of_getLsbD_eq
    intro i hi
    rw [b1_get, BitVec.getLsbD_and]
    by_cases h : i = 0
    · subst h
      simp
    · simp [h]
  rw [e]
  cases x.getLsbD 0 <;> simp [b1]
theorem crcBit_eq (x : Wd) : crcBit x = x >>> 1 ^^^ (if x.getLsbD 0 then poly else 0) := by rw [crcBit, and1_mul]

theorem crcBit_xor (x y : Wd) : crcBit (x ^^^ y) = crcBit x ^^^ crcBit y := by
  rw [crcBit_eq, crcBit_eq, crcBit_eq, BitVec.getLsbD_xor]
  apply BitVec.eq_of_getLsbD_eq
  intro i hi
  cases x.getLsbD 0 <;> cases y.getLsbD 0 <;> simp [BitVec.getLsbD_xor, BitVec.getLsbD_ushiftRight] <;>
    (cases x.getLsbD (1 + i) <;> cases y.getLsbD (1 + i) <;> cases poly.getLsbD i <;> rfl)
theorem crcBit_inj {x : Wd} (h : crcBit x = 0) : x = 0 := by
  rw [crcBit_eq] at h
  cases h0 : x.getLsbD 0 with
  | true =>
    rw [h0] at h
    have h31 : (x >>> 1 ^^^ (if true = true then poly else 0)).getLsbD 31 = false := by rw [h]; rfl
    rw [if_pos rfl, BitVec.getLsbD_xor, BitVec.getLsbD_ushiftRight, BitVec.getLsbD_of_ge x (1 + 31) (by decide)] at h31
    exact absurd h31 (by decide)
  | false =>
    rw [h0] at h
    apply BitVec.eq_of_getLsbD_eq
    intro i hi
    cases i with
    | zero => rw [h0]; rfl
    | succ i =>
      have h1 : (x >>> 1 ^^^ (if false = true then poly else 0)).getLsbD i = false := by rw [h]; simp
      rw [if_neg (by decide), BitVec.getLsbD_xor, BitVec.getLsbD_ushiftRight] at h1
      simp at h1
      rw [Nat.add_comm] at h1
      simp [h1]
theorem crcBit_zero : crcBit 0 = 0 := by decide +kernel

theorem crcBits_xor (n : Nat) (x y : Wd) : crcBits n (x ^^^ y) = crcBits n x ^^^ crcBits n y := by
  induction n with
  | zero => rfl
  | succ n ih => rw [crcBits, ih, crcBit_xor]; rfl
theorem crcBits_zero (n : Nat) : crcBits n 0 = 0 := by
  induction n with
  | zero => rfl
  | succ n ih => rw [crcBits, ih, crcBit_zero]
theorem crcBits_inj (n : Nat) {x : Wd} (h : crcBits n x = 0) : x = 0 := by
  induction n with
  | zero => exact h
  | succ n ih => exact ih (crcBit_inj h)
theorem crcBits_add (n m : Nat) (x : Wd) : crcBits (n + m) x = crcBits n (crcBits m x) := by
  induction n with
  | zero => rw [Nat.zero_add]; rfl
  | succ n ih => rw [show n + 1 + m = (n + m) + 1 from by omega, crcBits, ih]; rfl
theorem crcBits_one : ∀ m : Nat, m < 32 → crcBits m ((1 : Wd) <<< m) = 1 := by decide +kernel
theorem crcBits_b1 (m : Nat) (h : m < 32) (x : Bool) : crcBits m (b1 x <<< m) = b1 x := by
  cases x
  · show crcBits m ((0 : Wd) <<< m) = 0
    have e : (0 : Wd) <<< m = 0 := BitVec.zero_shiftLeft m
    rw [e, crcBits_zero]
  · exact crcBits_one m h

/-- A bit at the lowest place, and a step. -/
def stp (s : Wd) (x : Bool) : Wd := crcBit (s ^^^ b1 x)
/-- The first n bits of v, the lowest first. -/
def stpN (s : Wd) (v : Nat) : Nat → Wd
  | 0 => s
  | n + 1 => stp (stpN s v n) (v.testBit n)
theorem low_succ (v n : Nat) (h : n < 32) : BitVec.ofNat 32 (v % 2 ^ (n + 1)) = BitVec.ofNat 32 (v % 2 ^ n) ^^^ (b1 (v.testBit n) <<< n) := by
  apply BitVec.eq_of_getLsbD_eq
  intro i hi
  rw [BitVec.getLsbD_xor, BitVec.getLsbD_ofNat, BitVec.getLsbD_ofNat, BitVec.getLsbD_shiftLeft, b1_get, Nat.testBit_mod_two_pow, Nat.testBit_mod_two_pow]
  rcases Nat.lt_trichotomy i n with h1 | h1 | h1
  · simp [hi, h1, show i < n + 1 from by omega]
  · subst h1
    simp [hi]
  · have e1 : ¬ i < n := by omega
    have e2 : ¬ i < n + 1 := by omega
    have e3 : ¬ i - n = 0 := by omega
    simp [e1, e2, e3]
theorem stpN_eq (s : Wd) (v : Nat) : ∀ n, n ≤ 32 → stpN s v n = crcBits n (s ^^^ BitVec.ofNat 32 (v % 2 ^ n))
  | 0, _ => by
    have : BitVec.ofNat 32 (v % 2 ^ 0) = 0 := by simp [Nat.mod_one]
    rw [this, xor_nought]
    rfl
  | n + 1, h => by
    rw [stpN, stp, stpN_eq s v n (by omega), low_succ v n (by omega), ← BitVec.xor_assoc]
    rw [show crcBits (n + 1) (s ^^^ BitVec.ofNat 32 (v % 2 ^ n) ^^^ b1 (v.testBit n) <<< n) = crcBit (crcBits n (s ^^^ BitVec.ofNat 32 (v % 2 ^ n) ^^^ b1 (v.testBit n) <<< n)) from rfl, crcBits_xor n (s ^^^ BitVec.ofNat 32 (v % 2 ^ n)), crcBits_b1 n (by omega)]

theorem nib_eq (x : Wd) : nib x = crcBits 4 x := by
  have e : x = (x >>> 4) <<< 4 ^^^ (x &&& 15) := by
    apply BitVec.eq_of_getLsbD_eq
    intro i hi
    rw [BitVec.getLsbD_xor, BitVec.getLsbD_shiftLeft, BitVec.getLsbD_ushiftRight, BitVec.getLsbD_and]
    have h15 : (15 : Wd).getLsbD i = decide (i < 4) := by
      revert i
      decide +kernel
    rw [h15]
    by_cases h : i < 4
    · simp [h]
    · simp [h, hi, show 4 + (i - 4) = i from by omega]
  have e2 : crcBits 4 ((x >>> 4) <<< 4) = x >>> 4 := by
    have hz : ∀ u : Wd, u.getLsbD 31 = false → crcBit (u <<< 1) = u := by
      intro u hu
      rw [crcBit_eq]
      have : (u <<< 1).getLsbD 0 = false := by simp
      rw [this, if_neg (by decide), xor_nought]
      apply BitVec.eq_of_getLsbD_eq
      intro i hi
      rw [BitVec.getLsbD_ushiftRight, BitVec.getLsbD_shiftLeft]
      by_cases h : i = 31
      · subst h; rw [hu]; simp
      · simp [show 1 + i < 32 from by omega]
    have t : ∀ j, 28 ≤ j → (x >>> 4).getLsbD j = false := by
      intro j hj
      rw [BitVec.getLsbD_ushiftRight, BitVec.getLsbD_of_ge x (4 + j) (by omega)]
    have s1 : ∀ u : Wd, u <<< 4 = (((u <<< 1) <<< 1) <<< 1) <<< 1 := by
      intro u
      simp [← BitVec.shiftLeft_add]
    show crcBit (crcBit (crcBit (crcBit ((x >>> 4) <<< 4)))) = _
    rw [s1, hz, hz, hz, hz]
    · exact t 31 (by decide)
    · rw [BitVec.getLsbD_shiftLeft]; simp
    · rw [BitVec.getLsbD_shiftLeft, BitVec.getLsbD_shiftLeft]; simp
    · rw [BitVec.getLsbD_shiftLeft, BitVec.getLsbD_shiftLeft, BitVec.getLsbD_shiftLeft]; simp
  unfold nib
  conv => rhs; rw [e, crcBits_xor, e2]
theorem crcByte_bits (c : Wd) (b : UInt8) : crcByte c b = stpN c b.toNat 8 := by
  rw [crcByte, nib_eq, nib_eq, ← crcBits_add, stpN_eq c b.toNat 8 (by decide), Nat.mod_eq_of_lt (by have := b.toNat_lt; simpa using this)]
  rfl

/-- The n-th bit of a text. -/
def bitAt (l : List UInt8) (n : Nat) : Bool := (l.getD (n / 8) 0).toNat.testBit (n % 8)
/-- The check sum's state behind n bits. -/
def runB (l : List UInt8) : Nat → Wd
  | 0 => 0xFFFFFFFF
  | n + 1 => stp (runB l n) (bitAt l n)
theorem runB_byte (l : List UInt8) (q : Nat) : ∀ m, m ≤ 8 → runB l (8 * q + m) = stpN (runB l (8 * q)) (l.getD q 0).toNat m
  | 0, _ => rfl
  | m + 1, h => by
    rw [show 8 * q + (m + 1) = (8 * q + m) + 1 from by omega, runB, runB_byte l q m (by omega), stpN, bitAt, show (8 * q + m) / 8 = q from by omega, show (8 * q + m) % 8 = m from by omega]
theorem runB_take (l : List UInt8) : ∀ q, q ≤ l.length → (l.take q).foldl crcByte 0xFFFFFFFF = runB l (8 * q)
  | 0, _ => by rw [List.take_zero]; rfl
  | q + 1, h => by
    have hq : q < l.length := by omega
    rw [List.take_succ_eq_append_getElem hq, List.foldl_append, runB_take l q (by omega), List.foldl_cons, List.foldl_nil, crcByte_bits, show 8 * (q + 1) = 8 * q + 8 from by omega, runB_byte l q 8 (by decide)]
    congr 2
    simp [List.getD, hq]
theorem crcL_bits (l : List UInt8) : crcL l = ~~~ runB l (8 * l.length) := by rw [crcL, ← runB_take l l.length (Nat.le_refl _), List.take_length]

/-- Two texts whose bits part by P from place p on. -/
theorem runB_diff (l m : List UInt8) (p P : Nat) (e : Nat) (h1 : ∀ n, n < e → n < p → bitAt l n = bitAt m n) (h2 : ∀ n, n < e → p ≤ n → (bitAt l n ^^ bitAt m n) = P.testBit (n - p)) :
    ∀ n, n ≤ e → runB l n ^^^ runB m n = if n ≤ p then 0 else stpN 0 P (n - p)
  | 0, _ => by rw [if_pos (Nat.zero_le _)]; exact BitVec.xor_self
  | n + 1, h => by
    have ih := runB_diff l m p P e h1 h2 n (by omega)
    have es : runB l (n + 1) ^^^ runB m (n + 1) = stp (runB l n ^^^ runB m n) (bitAt l n ^^ bitAt m n) := by
      rw [runB, runB, stp, stp, ← crcBit_xor, stp, ← b1_xor]
      congr 1
      ac_rfl
    rw [es, ih]
    by_cases hp : n + 1 ≤ p
    · rw [if_pos (by omega), if_pos hp, h1 n (by omega) (by omega), Bool.xor_self]
      decide +kernel
    · rw [if_neg hp, h2 n (by omega) (by omega)]
      by_cases hq : n ≤ p
      · have : n = p := by omega
        subst this
        rw [if_pos hq, Nat.sub_self, show n + 1 - n = 1 from by omega]
        rfl
      · rw [if_neg hq, show n + 1 - p = (n - p) + 1 from by omega]
        rfl
theorem stpN_zero (P : Nat) (hP : P < 4294967296) (m : Nat) : stpN 0 P m = 0 ↔ ∀ k, k < m → P.testBit k = false := by
  have key : ∀ m, m ≤ 32 → (stpN 0 P m = 0 ↔ ∀ k, k < m → P.testBit k = false) := by
    intro m hm
    rw [stpN_eq 0 P m hm, nought_xor]
    constructor
    · intro h k hk
      have h0 := crcBits_inj m h
      have h1 : (BitVec.ofNat 32 (P % 2 ^ m)).getLsbD k = false := by rw [h0]; simp
      rw [BitVec.getLsbD_ofNat, Nat.testBit_mod_two_pow] at h1
      simpa [show k < 32 from by omega, hk] using h1
    · intro h
      have : BitVec.ofNat 32 (P % 2 ^ m) = 0 := by
        apply BitVec.eq_of_getLsbD_eq
        intro i hi
        rw [BitVec.getLsbD_ofNat, Nat.testBit_mod_two_pow]
        by_cases h' : i < m
        · simp [h i h']
        · simp [h']
      rw [this, crcBits_zero]
  rcases Nat.le_total m 32 with hm | hm
  · exact key m hm
  · obtain ⟨j, rfl⟩ : ∃ j, m = 32 + j := ⟨m - 32, by omega⟩
    have hz : ∀ k, 32 ≤ k → P.testBit k = false := fun k hk => Nat.testBit_lt_two_pow (Nat.lt_of_lt_of_le (show P < 2 ^ 32 by omega) (Nat.pow_le_pow_right (by decide) hk))
    have step : ∀ j, stpN 0 P (32 + j) = 0 ↔ stpN 0 P 32 = 0 := by
      intro j
      induction j with
      | zero => exact Iff.rfl
      | succ j ih =>
        rw [← ih, show 32 + (j + 1) = (32 + j) + 1 from by omega, stpN, hz _ (by omega), stp]
        have e0 : b1 false = 0 := rfl
        rw [e0, xor_nought]
        exact ⟨crcBit_inj, fun h => by rw [h, crcBit_zero]⟩
    rw [step j, key 32 (Nat.le_refl _)]
    exact ⟨fun h k hk => if h' : k < 32 then h k h' else hz k (by omega), fun h k hk => h k (by omega)⟩
end Go.Proofs.Ytecljiefljgfmaa
