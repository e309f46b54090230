/-
  size and cut of any node; a child that is too small is mended.
-/
import Derived.Test.YtpophalhmjchkaaJoin2
namespace Go.Proofs.Ytpophalhmjchkaa
open Go.RowKit

theorem m_lsize (a : Addr) (w : World) : (method 231 56 (.pointer (some a)) "stowage/btree.size").run Try.prog w = .ok (48, .pointer (some a)) w := by kernel_rfl
theorem m_isize (a : Addr) (w : World) : (method 231 66 (.pointer (some a)) "stowage/btree.size").run Try.prog w = .ok (41, .pointer (some a)) w := by kernel_rfl
theorem m_lcut (a : Addr) (w : World) : (method 231 56 (.pointer (some a)) "stowage/btree.cut").run Try.prog w = .ok (36, .pointer (some a)) w := by kernel_rfl
theorem m_icut (a : Addr) (w : World) : (method 231 66 (.pointer (some a)) "stowage/btree.cut").run Try.prog w = .ok (39, .pointer (some a)) w := by kernel_rfl
theorem Row.pair_at {V : Option ByteArray → Option ByteArray → T → Prop} {bs : List ByteArray} {cs : List T} {lo hi : Option ByteArray} (h : Row V lo bs cs hi) {p : Nat} (hp : p < bs.length) (hp1 : p + 1 < cs.length) : ∃ mi, V mi (some bs[p]) cs[p] ∧ ∃ hi2, V (some bs[p]) hi2 cs[p + 1] := by
  obtain ⟨m, _, hr⟩ := Row.pre p h (by omega)
  rw [List.drop_eq_getElem_cons hp, List.drop_eq_getElem_cons (l := cs) (i := p) (by omega), List.drop_eq_getElem_cons (l := cs) (i := p + 1) hp1] at hr
  obtain ⟨h1, h2⟩ := Row.cons.1 hr
  refine ⟨m, h1, ?_⟩
  generalize bs.drop (p + 1) = B at h2
  generalize cs.drop (p + 1 + 1) = C at h2
  match B, C, h2 with
  | [], [], h2 => exact ⟨_, h2⟩
  | _ :: _, _, h2 => exact ⟨_, h2.1⟩
  | [], _ :: _, h2 => exact h2.elim
theorem szN0 {AV : Avd} {w : World} {v : Value} {t : T} (h : Nd w 0 v t) : ∃ bx, v = .iface 56 (.pointer (some ⟨bx, 0, none⟩)) ∧ Calls Try.prog 48 #[.pointer (some ⟨bx, 0, none⟩)] w fun e w' => e = .returned (.int .i64 (t.sz : Int)) ∧ w = w' := by
  match t, h with
  | .leaf ps, h => obtain ⟨bx, rfl, hl⟩ := h; exact ⟨bx, rfl, lsize_any bx ps w hl⟩
  | .inner _ _, h => exact h.elim
theorem szN1 {AV : Avd} {w : World} {v : Value} {h : Nat} {t : T} (hn : Nd w (h + 1) v t) : ∃ bx, v = .iface 66 (.pointer (some ⟨bx, 0, none⟩)) ∧ Calls Try.prog 41 #[.pointer (some ⟨bx, 0, none⟩)] w fun e w' => e = .returned (.int .i64 (t.sz : Int)) ∧ w = w' := by
  match t, hn with
  | .inner bs cs, hn => obtain ⟨bx, rfl, hl⟩ := hn; exact ⟨bx, rfl, isize_any bx bs cs w hl⟩
  | .leaf _, hn => exact hn.elim
theorem cutN0 {AV : Avd} {w : World} {v : Value} {t : T} (h : Nd w 0 v t) (hs : t.sz ≤ 16) : ∃ bx, v = .iface 56 (.pointer (some ⟨bx, 0, none⟩)) ∧ Calls Try.prog 36 #[.pointer (some ⟨bx, 0, none⟩)] w fun e w' => ∃ b', e = .returned (.pointer (some ⟨b', 0, none⟩)) ∧ Rw w' 0 b' (cutT t) ∧ Below w.heap.size w w' := by
  match t, h with
  | .leaf ps, h => obtain ⟨bx, rfl, hl⟩ := h; exact ⟨bx, rfl, lcut_any bx ps w hl hs⟩
  | .inner _ _, h => exact h.elim
theorem cutN1 {AV : Avd} {w : World} {v : Value} {h : Nat} {t : T} {lo hi : Option ByteArray} (hn : Nd w (h + 1) v t) (hv : Val (h + 1) lo hi t) (hs : t.sz ≤ 16) : ∃ bx, v = .iface 66 (.pointer (some ⟨bx, 0, none⟩)) ∧ Calls Try.prog 39 #[.pointer (some ⟨bx, 0, none⟩)] w fun e w' => ∃ b', e = .returned (.pointer (some ⟨b', 0, none⟩)) ∧ Rw w' (h + 1) b' (cutT t) ∧ Below w.heap.size w w' := by
  match t, hn with
  | .inner bs cs, hn => obtain ⟨bx, rfl, hl⟩ := hn; exact ⟨bx, rfl, icut_any bx h bs cs w hl hv.1.len hs⟩
  | .leaf _, hn => exact hn.elim

set_option maxHeartbeats 4000000 in
set_option maxRecDepth 20000 in
theorem mend_leaf {AV : Avd} (b : Nat) (bs : List ByteArray) (cs : List T) (i : Nat) (lo hi : Option ByteArray) (w : World) (hr : Rw w 0 b (bs, cs)) (hv : Row (Val 0) lo bs cs hi) (hi' : i < cs.length) (h2 : 2 ≤ cs.length) (hn : cs.length ≤ 20) (hs : ∀ c ∈ cs, c.sz ≤ 8) :
    Calls Try.prog 38 #[.pointer (some ⟨b, 0, none⟩), .int .i64 (i : Int)] w fun e w' => ∃ b', e = .returned (.pointer (some ⟨b', 0, none⟩)) ∧ Rw w' 0 b' (mendR (bs, cs) i) ∧ Below w.heap.size w w' := by
  have hr0 := hr
  obtain ⟨a1, c1, a2, c2, vs, q1, q2, q3, q4⟩ := hr
  have q2 : Sl w 1 a1 bs.length c1 (scs bs) := q2
  have q3 : Sl w 1 a2 cs.length c2 vs := q3
  have q4 : All2 (Nd w 0) vs cs := q4
  have hvl := q4.len
  have hlen := hv.len
  have k0 : w.cell? ⟨b, 0, none⟩ = some (.slice a1 bs.length c1) := cell_blk q1 0
  have k1 : w.cell? ⟨b, 1, none⟩ = some (.slice a2 cs.length c2) := cell_blk q1 1
  have hbl : b < w.heap.size := (Array.getElem?_eq_some_iff.1 q1).1
  obtain ⟨bb, off, rfl, hbb, hcc⟩ := q3.at (j := i) (by omega)
  have hci := hcc i (by omega)
  have hnd := q4.get (j := i) (by omega) hi'
  obtain ⟨x, hx⟩ : ∃ x, x = vs[i]'(by omega) := ⟨_, rfl⟩
  rw [← hx] at hci hnd
  have hm : mendR (bs, cs) i = if 4 ≤ cs[i].sz then (bs, cs) else withR (bs, cs) (i - 1) (i - 1 + 2) (cutT (joinT (cs.getD (i - 1) default) (bs.getD (i - 1) default) (cs.getD (i - 1 + 1) default))) := by
    rw [mendR]
    show (if 4 ≤ (cs.getD i default).sz then _ else _) = _
    rw [getD_of hi']
  have hili : (i : Int) < (cs.length : Int) := by omega
  obtain ⟨bx, rfl, hsz⟩ := szN0 hnd
  have hm1 := fun w => m_lsize ⟨bx, 0, none⟩ w
  obtain ⟨z, hz⟩ : ∃ z, z = cs[i].sz := ⟨_, rfl⟩
  rw [← hz] at hsz hm
  by_cases h4 : 4 ≤ z
  · rw [if_pos h4] at hm
    rw [hm]
    have HR : Hid (Rw w 0 b (bs, cs)) := hr0
    have h4i : (4 : Int) ≤ (z : Int) := by omega
    clear hr0 hv q1 q2 q3 q4 hcc hnd hm hs hx hz h4
    go_enter Try.func38, Try.ntmps38
    go_wp2_with (go_at_call 48; refine Calls.mono hsz ?_; rintro e w2 ⟨rfl, rfl⟩)
    go_ret
    exact ⟨b, rfl, HR.out, Below.refl _ _⟩
  · rw [if_neg h4] at hm
    obtain ⟨R, hR⟩ : ∃ R, R = mendR (bs, cs) i := ⟨_, rfl⟩
    rw [← hR] at hm ⊢
    obtain ⟨p, hp⟩ : ∃ p, p = i - 1 := ⟨_, rfl⟩
    rw [← hp] at hm
    have hp1 : p + 1 < cs.length := by omega
    have hpb : p < bs.length := by omega
    obtain ⟨b2, off2, rfl, hb2, hcb⟩ := q2.at (j := p) (by rw [scs_len]; omega)
    have hcp := hcc p (by omega)
    have hcq := hcc (p + 1) (by omega)
    have hcs := hcb p (by rw [scs_len]; omega)
    have hes : (scs bs)[p]'(by rw [scs_len]; omega) = .string bs[p] := by simp [scs]
    rw [hes] at hcs
    rw [getD_of (by omega), getD_of hpb, getD_of hp1] at hm
    obtain ⟨mi, r1, r2⟩ : ∃ mi, Val 0 mi (some bs[p]) cs[p] ∧ ∃ hi2, Val 0 (some bs[p]) hi2 cs[p + 1] := hv.pair_at hpb hp1
    obtain ⟨hi2, r2⟩ := r2
    have hn1 := q4.get (j := p) (by omega) (by omega)
    have hn2 := q4.get (j := p + 1) (by omega) hp1
    have s1 := hs cs[p] (List.getElem_mem _)
    have s2 := hs cs[p + 1] (List.getElem_mem _)
    obtain ⟨x1, hx1⟩ : ∃ x1, x1 = vs[p]'(by omega) := ⟨_, rfl⟩
    obtain ⟨x2, hx2⟩ : ∃ x2, x2 = vs[p + 1]'(by omega) := ⟨_, rfl⟩
    obtain ⟨kk, hkk⟩ : ∃ kk, kk = bs[p] := ⟨_, rfl⟩
    rw [← hx1] at hcp hn1
    rw [← hx2] at hcq hn2
    rw [← hkk] at hcs r1 r2 hm
    have jv := join_val r1 r2
    have hd : Below w.heap.size w w.drew := (Below.refl _ _).drew
    have HJ : Calls Try.prog 52 #[x1, .string kk, x2] w.drew (fun e w1 => ∃ by', e = .returned (.iface 56 (.pointer (some ⟨by', 0, none⟩))) ∧ (w1.cell? ⟨b, 0, none⟩ = some (.slice (some ⟨b2, off2, none⟩) bs.length c1) ∧ w1.cell? ⟨b, 1, none⟩ = some (.slice (some ⟨bb, off, none⟩) cs.length c2) ∧ w1.cell? ⟨bb, off + p, none⟩ = some x1 ∧ w1.cell? ⟨bb, off + (p + 1), none⟩ = some x2 ∧ w1.cell? ⟨b2, off2 + p, none⟩ = some (.string kk)) ∧
        Calls Try.prog 36 #[.pointer (some ⟨by', 0, none⟩)] w1 (fun e w2 => ∃ rb, e = .returned (.pointer (some ⟨rb, 0, none⟩)) ∧ Calls Try.prog 37 #[.pointer (some ⟨b, 0, none⟩), .int .i64 (p : Int), .int .i64 ((p : Int) + 2), .pointer (some ⟨rb, 0, none⟩)] w2 (fun e w3 => ∃ b', e = .returned (.pointer (some ⟨b', 0, none⟩)) ∧ Rw w3 0 b' R ∧ Below w.heap.size w w3))) := by
      refine Calls.mono (join_any x1 x2 0 cs[p] cs[p + 1] kk w.drew mi (some kk) hi2 (hn1.below hd) (hn2.below hd) r1 r2 (by omega)) ?_
      rintro e w1 ⟨v', rfl, hj, hb1⟩
      have hb1 : Below w.heap.size w w1 := hd.trans (hb1.mono hd.size)
      obtain ⟨by', rfl, hc⟩ := cutN0 hj (by rw [jv.2.2]; omega)
      refine ⟨by', rfl, ⟨(hb1.cell (p := ⟨b, 0, none⟩) hbl).trans k0, (hb1.cell (p := ⟨b, 1, none⟩) hbl).trans k1, (hb1.cell (p := ⟨bb, off + p, none⟩) hbb).trans hcp, (hb1.cell (p := ⟨bb, off + (p + 1), none⟩) hbb).trans hcq, (hb1.cell (p := ⟨b2, off2 + p, none⟩) hb2).trans hcs⟩, ?_⟩
      refine Calls.mono hc ?_
      rintro e w2 ⟨rb, rfl, hrb, hb2⟩
      have hb2 : Below w.heap.size w w2 := hb1.trans (hb2.mono hb1.size)
      refine ⟨rb, rfl, ?_⟩
      have cv := cut_val jv.1 (by rw [jv.2.2]; omega)
      have hW := with_any b 0 bs cs p (p + 2) rb _ w2 (hr0.below hb2) hlen (by omega) (by omega) (by omega) hrb cv.1.len (by rcases cv.2.2 with ⟨e, _⟩ | ⟨_, _, _, _, e, _⟩ <;> rw [e] <;> simp)
      have ei : ((p + 2 : Nat) : Int) = (p : Int) + 2 := by omega
      rw [ei] at hW
      refine Calls.mono hW ?_
      rintro e w3 ⟨b', rfl, hq, hb3⟩
      exact ⟨b', rfl, by rw [hm]; exact hq, hb2.trans (hb3.mono hb2.size)⟩
    have h4i : ¬ (4 : Int) ≤ (z : Int) := by omega
    have hmx : (if (i : Int) - 1 < 0 then 0 else (i : Int) - 1) = (p : Int) := by split <;> omega
    have hmy : (if (i : Int) < 1 then 0 else (i : Int) - 1) = (p : Int) := by split <;> omega
    have hmz : (if 0 < (i : Int) - 1 then (i : Int) - 1 else 0) = (p : Int) := by split <;> omega
    have hpi : (p : Int) < (bs.length : Int) := by omega
    have hpc : (p : Int) < (cs.length : Int) := by omega
    have hpd : (p : Int) + 1 < (cs.length : Int) := by omega
    have hib : (i : Int) < 1000 := by omega
    have hw1 : IntKind.i64.wrap ((p : Int) + 1) = (p : Int) + 1 := by rw [IntKind.wrap_i64]; omega
    have hpn : (0 : Int) ≤ (p : Int) + 1 := by omega
    have hpf : ¬ ((p : Int) + 1 < 0) := by omega
    have hw2 : IntKind.i64.wrap ((p : Int) + 2) = (p : Int) + 2 := by rw [IntKind.wrap_i64]; omega
    have hm2 := fun a w => m_lcut a w
    clear hr0 hv q1 q2 q3 q4 hcc hcb hnd hm hs hx hz h4 hx1 hx2 hkk jv r1 r2 hn1 hn2 s1 s2 hR hd hp hes hlen hvl hi' h2 hn hp1 hpb hbl hbb hb2
    go_enter Try.func38, Try.ntmps38
    go_wp2_with (go_at_call 48; refine Calls.mono hsz ?_; rintro e w2 ⟨rfl, rfl⟩)
    clear hmx hmy hmz hsz hci hili hib h4i
    go_region_held3 (fun w' => w'.cell? ⟨b, 0, none⟩ = some (.slice (some ⟨b2, off2, none⟩) bs.length c1) ∧ w'.cell? ⟨b, 1, none⟩ = some (.slice (some ⟨bb, off, none⟩) cs.length c2) ∧ w'.cell? ⟨bb, off + p, none⟩ = some x1 ∧ w'.cell? ⟨bb, off + (p + 1), none⟩ = some x2 ∧ w'.cell? ⟨b2, off2 + p, none⟩ = some (.string kk)) (go_keep)
      (first | (go_at_call 52; refine Calls.mono HJ ?_; rintro e w1 ⟨by', rfl, ⟨u0, u1, u2, u3, u4⟩, hcut⟩))
    all_goals
      (go_wp2_with (go_at_call 36; refine Calls.mono hcut ?_; rintro e w2 ⟨rb, rfl, hwith⟩)
       with_reducible refine Calls.mono hwith ?_
       rintro e w3 ⟨b', rfl, hrw, hb⟩
       go_wp2
       go_ret
       exact ⟨b', rfl, hrw, hb⟩)

set_option maxHeartbeats 4000000 in
set_option maxRecDepth 20000 in
theorem mend_inner {AV : Avd} (b h : Nat) (bs : List ByteArray) (cs : List T) (i : Nat) (lo hi : Option ByteArray) (w : World) (hr : Rw w (h + 1) b (bs, cs)) (hv : Row (Val (h + 1)) lo bs cs hi) (hi' : i < cs.length) (h2 : 2 ≤ cs.length) (hn : cs.length ≤ 20) (hs : ∀ c ∈ cs, c.sz ≤ 8) :
    Calls Try.prog 38 #[.pointer (some ⟨b, 0, none⟩), .int .i64 (i : Int)] w fun e w' => ∃ b', e = .returned (.pointer (some ⟨b', 0, none⟩)) ∧ Rw w' (h + 1) b' (mendR (bs, cs) i) ∧ Below w.heap.size w w' := by
  have hr0 := hr
  obtain ⟨a1, c1, a2, c2, vs, q1, q2, q3, q4⟩ := hr
  have q2 : Sl w 1 a1 bs.length c1 (scs bs) := q2
  have q3 : Sl w 1 a2 cs.length c2 vs := q3
  have q4 : All2 (Nd w (h + 1)) vs cs := q4
  have hvl := q4.len
  have hlen := hv.len
  have k0 : w.cell? ⟨b, 0, none⟩ = some (.slice a1 bs.length c1) := cell_blk q1 0
  have k1 : w.cell? ⟨b, 1, none⟩ = some (.slice a2 cs.length c2) := cell_blk q1 1
  have hbl : b < w.heap.size := (Array.getElem?_eq_some_iff.1 q1).1
  obtain ⟨bb, off, rfl, hbb, hcc⟩ := q3.at (j := i) (by omega)
  have hci := hcc i (by omega)
  have hnd := q4.get (j := i) (by omega) hi'
  obtain ⟨x, hx⟩ : ∃ x, x = vs[i]'(by omega) := ⟨_, rfl⟩
  rw [← hx] at hci hnd
  have hm : mendR (bs, cs) i = if 4 ≤ cs[i].sz then (bs, cs) else withR (bs, cs) (i - 1) (i - 1 + 2) (cutT (joinT (cs.getD (i - 1) default) (bs.getD (i - 1) default) (cs.getD (i - 1 + 1) default))) := by
    rw [mendR]
    show (if 4 ≤ (cs.getD i default).sz then _ else _) = _
    rw [getD_of hi']
  have hili : (i : Int) < (cs.length : Int) := by omega
  obtain ⟨bx, rfl, hsz⟩ := szN1 hnd
  have hm1 := fun w => m_isize ⟨bx, 0, none⟩ w
  obtain ⟨z, hz⟩ : ∃ z, z = cs[i].sz := ⟨_, rfl⟩
  rw [← hz] at hsz hm
  by_cases h4 : 4 ≤ z
  · rw [if_pos h4] at hm
    rw [hm]
    have HR : Hid (Rw w (h + 1) b (bs, cs)) := hr0
    have h4i : (4 : Int) ≤ (z : Int) := by omega
    clear hr0 hv q1 q2 q3 q4 hcc hnd hm hs hx hz h4
    go_enter Try.func38, Try.ntmps38
    go_wp2_with (go_at_call 41; refine Calls.mono hsz ?_; rintro e w2 ⟨rfl, rfl⟩)
    go_ret
    exact ⟨b, rfl, HR.out, Below.refl _ _⟩
  · rw [if_neg h4] at hm
    obtain ⟨R, hR⟩ : ∃ R, R = mendR (bs, cs) i := ⟨_, rfl⟩
    rw [← hR] at hm ⊢
    obtain ⟨p, hp⟩ : ∃ p, p = i - 1 := ⟨_, rfl⟩
    rw [← hp] at hm
    have hp1 : p + 1 < cs.length := by omega
    have hpb : p < bs.length := by omega
    obtain ⟨b2, off2, rfl, hb2, hcb⟩ := q2.at (j := p) (by rw [scs_len]; omega)
    have hcp := hcc p (by omega)
    have hcq := hcc (p + 1) (by omega)
    have hcs := hcb p (by rw [scs_len]; omega)
    have hes : (scs bs)[p]'(by rw [scs_len]; omega) = .string bs[p] := by simp [scs]
    rw [hes] at hcs
    rw [getD_of (by omega), getD_of hpb, getD_of hp1] at hm
    obtain ⟨mi, r1, r2⟩ : ∃ mi, Val (h + 1) mi (some bs[p]) cs[p] ∧ ∃ hi2, Val (h + 1) (some bs[p]) hi2 cs[p + 1] := hv.pair_at hpb hp1
    obtain ⟨hi2, r2⟩ := r2
    have hn1 := q4.get (j := p) (by omega) (by omega)
    have hn2 := q4.get (j := p + 1) (by omega) hp1
    have s1 := hs cs[p] (List.getElem_mem _)
    have s2 := hs cs[p + 1] (List.getElem_mem _)
    obtain ⟨x1, hx1⟩ : ∃ x1, x1 = vs[p]'(by omega) := ⟨_, rfl⟩
    obtain ⟨x2, hx2⟩ : ∃ x2, x2 = vs[p + 1]'(by omega) := ⟨_, rfl⟩
    obtain ⟨kk, hkk⟩ : ∃ kk, kk = bs[p] := ⟨_, rfl⟩
    rw [← hx1] at hcp hn1
    rw [← hx2] at hcq hn2
    rw [← hkk] at hcs r1 r2 hm
    have jv := join_val r1 r2
    have hd : Below w.heap.size w w.drew := (Below.refl _ _).drew
    have HJ : Calls Try.prog 52 #[x1, .string kk, x2] w.drew (fun e w1 => ∃ by', e = .returned (.iface 66 (.pointer (some ⟨by', 0, none⟩))) ∧ (w1.cell? ⟨b, 0, none⟩ = some (.slice (some ⟨b2, off2, none⟩) bs.length c1) ∧ w1.cell? ⟨b, 1, none⟩ = some (.slice (some ⟨bb, off, none⟩) cs.length c2) ∧ w1.cell? ⟨bb, off + p, none⟩ = some x1 ∧ w1.cell? ⟨bb, off + (p + 1), none⟩ = some x2 ∧ w1.cell? ⟨b2, off2 + p, none⟩ = some (.string kk)) ∧
        Calls Try.prog 39 #[.pointer (some ⟨by', 0, none⟩)] w1 (fun e w2 => ∃ rb, e = .returned (.pointer (some ⟨rb, 0, none⟩)) ∧ Calls Try.prog 37 #[.pointer (some ⟨b, 0, none⟩), .int .i64 (p : Int), .int .i64 ((p : Int) + 2), .pointer (some ⟨rb, 0, none⟩)] w2 (fun e w3 => ∃ b', e = .returned (.pointer (some ⟨b', 0, none⟩)) ∧ Rw w3 (h + 1) b' R ∧ Below w.heap.size w w3))) := by
      refine Calls.mono (join_any x1 x2 (h + 1) cs[p] cs[p + 1] kk w.drew mi (some kk) hi2 (hn1.below hd) (hn2.below hd) r1 r2 (by omega)) ?_
      rintro e w1 ⟨v', rfl, hj, hb1⟩
      have hb1 : Below w.heap.size w w1 := hd.trans (hb1.mono hd.size)
      obtain ⟨by', rfl, hc⟩ := cutN1 hj jv.1 (by rw [jv.2.2]; omega)
      refine ⟨by', rfl, ⟨(hb1.cell (p := ⟨b, 0, none⟩) hbl).trans k0, (hb1.cell (p := ⟨b, 1, none⟩) hbl).trans k1, (hb1.cell (p := ⟨bb, off + p, none⟩) hbb).trans hcp, (hb1.cell (p := ⟨bb, off + (p + 1), none⟩) hbb).trans hcq, (hb1.cell (p := ⟨b2, off2 + p, none⟩) hb2).trans hcs⟩, ?_⟩
      refine Calls.mono hc ?_
      rintro e w2 ⟨rb, rfl, hrb, hb2⟩
      have hb2 : Below w.heap.size w w2 := hb1.trans (hb2.mono hb1.size)
      refine ⟨rb, rfl, ?_⟩
      have cv := cut_val jv.1 (by rw [jv.2.2]; omega)
      have hW := with_any b ((h + 1)) bs cs p (p + 2) rb _ w2 (hr0.below hb2) hlen (by omega) (by omega) (by omega) hrb cv.1.len (by rcases cv.2.2 with ⟨e, _⟩ | ⟨_, _, _, _, e, _⟩ <;> rw [e] <;> simp)
      have ei : ((p + 2 : Nat) : Int) = (p : Int) + 2 := by omega
      rw [ei] at hW
      refine Calls.mono hW ?_
      rintro e w3 ⟨b', rfl, hq, hb3⟩
      exact ⟨b', rfl, by rw [hm]; exact hq, hb2.trans (hb3.mono hb2.size)⟩
    have h4i : ¬ (4 : Int) ≤ (z : Int) := by omega
    have hmx : (if (i : Int) - 1 < 0 then 0 else (i : Int) - 1) = (p : Int) := by split <;> omega
    have hmy : (if (i : Int) < 1 then 0 else (i : Int) - 1) = (p : Int) := by split <;> omega
    have hmz : (if 0 < (i : Int) - 1 then (i : Int) - 1 else 0) = (p : Int) := by split <;> omega
    have hpi : (p : Int) < (bs.length : Int) := by omega
    have hpc : (p : Int) < (cs.length : Int) := by omega
    have hpd : (p : Int) + 1 < (cs.length : Int) := by omega
    have hib : (i : Int) < 1000 := by omega
    have hw1 : IntKind.i64.wrap ((p : Int) + 1) = (p : Int) + 1 := by rw [IntKind.wrap_i64]; omega
    have hpn : (0 : Int) ≤ (p : Int) + 1 := by omega
    have hpf : ¬ ((p : Int) + 1 < 0) := by omega
    have hw2 : IntKind.i64.wrap ((p : Int) + 2) = (p : Int) + 2 := by rw [IntKind.wrap_i64]; omega
    have hm2 := fun a w => m_icut a w
    clear hr0 hv q1 q2 q3 q4 hcc hcb hnd hm hs hx hz h4 hx1 hx2 hkk jv r1 r2 hn1 hn2 s1 s2 hR hd hp hes hlen hvl hi' h2 hn hp1 hpb hbl hbb hb2
    go_enter Try.func38, Try.ntmps38
    go_wp2_with (go_at_call 41; refine Calls.mono hsz ?_; rintro e w2 ⟨rfl, rfl⟩)
    clear hmx hmy hmz hsz hci hili hib h4i
    go_region_held3 (fun w' => w'.cell? ⟨b, 0, none⟩ = some (.slice (some ⟨b2, off2, none⟩) bs.length c1) ∧ w'.cell? ⟨b, 1, none⟩ = some (.slice (some ⟨bb, off, none⟩) cs.length c2) ∧ w'.cell? ⟨bb, off + p, none⟩ = some x1 ∧ w'.cell? ⟨bb, off + (p + 1), none⟩ = some x2 ∧ w'.cell? ⟨b2, off2 + p, none⟩ = some (.string kk)) (go_keep)
      (first | (go_at_call 52; refine Calls.mono HJ ?_; rintro e w1 ⟨by', rfl, ⟨u0, u1, u2, u3, u4⟩, hcut⟩))
    all_goals
      (go_wp2_with (go_at_call 39; refine Calls.mono hcut ?_; rintro e w2 ⟨rb, rfl, hwith⟩)
       with_reducible refine Calls.mono hwith ?_
       rintro e w3 ⟨b', rfl, hrw, hb⟩
       go_wp2
       go_ret
       exact ⟨b', rfl, hrw, hb⟩)

end Go.Proofs.Ytpophalhmjchkaa
