/-
  chunk.Decode: any body is taken apart, or refused.
-/
import Derived.Test.YtgpjjlkkfddjnaaDoorChN
import Derived.Laws.AppendOwnNone
namespace Go.Proofs.YtgpjjlkkfddjnaaDoor
open Go.RowKit

/-- How many bytes the reader in the box p still has. -/
def lenAt (w : World) (p : Nat) : Nat := match w.cell? ⟨p, 0, none⟩ with
  | some (.slice _ n _) => n
  | _ => 0
theorem Rx.len_at {w : World} {p B : Nat} {a : Option Addr} {cap : Nat} {s : RS} (h : Rx w p B a cap s) : lenAt w p = s.1.length := by
  have c : w.cell? ⟨p, 0, none⟩ = some (.slice a s.1.length cap) := (cell_blk h.box 0).trans rfl
  rw [lenAt, c]
theorem Rx.grown {w W : World} {p B : Nat} {a : Option Addr} {cap : Nat} {s : RS} {row : Option Nat} (h : Rx w p B a cap s) (hg : w.grownBy W row) (hr : ∀ j, row = some j → j ≠ p ∧ B ≤ j) : Rx W p B a cap s :=
  ⟨keep_blk h.box (Md.ofGrown hg) (fun e => (hr p e).1 rfl), h.by_.md (Md.ofGrown hg) (fun b off e hb => by have := (h.lo _ e).2; have := (hr b hb).2; simp only at *; omega), h.cap_, h.an, h.lo, h.bp, h.len⟩
/-- What Decode's loop keeps: the box of who signs (N), the reader (p), the data so far. -/
structure DcI (w wr : World) (N p : Nat) (x : Wh) (ka : Option Addr) (kc : Nat) (s : RS) (data : List UInt8) (dv : Value) : Prop where
  rd : ∃ a cap, Rx wr p w.heap.size a cap s
  who : wr.heap[N]? = some (.cells #[.string ⟨x.id.toArray⟩, .string ⟨x.date.toArray⟩, .string ⟨x.scope.toArray⟩, .string ⟨x.sig.toArray⟩, .slice ka x.key.length kc, .string ⟨x.pay.toArray⟩] 24 (0, 0))
  own : Own wr w.heap.size dv data
  bl : Below w.heap.size w wr
theorem bytes_news {w : World} {b off : Nat} {l : List UInt8} (h : ∀ j (h : j < l.length), w.cell? ⟨b, off + j, none⟩ = some (.int .u8 (l[j].toNat : Int))) : ∀ j u, (bcs l)[j]? = some u → w.cell? ((⟨b, off, none⟩ : Addr).add j) = some u := by
  intro j u hj
  have hlt : j < l.length := by
    have := (List.getElem?_eq_some_iff.1 hj).1
    rw [bcs_length] at this
    exact this
  rw [Addr.add_lit, h j hlt, ← bcs_get hlt]
  exact hj
theorem DcI.ne {w wr : World} {N p : Nat} {x : Wh} {ka : Option Addr} {kc : Nat} {s : RS} {data : List UInt8} {dv : Value} (h : DcI w wr N p x ka kc s data dv) : ∀ j, dv.ownBlock = some j → j ≠ p ∧ j ≠ N ∧ w.heap.size ≤ j := by
  intro j hj
  obtain ⟨a, cap, hr⟩ := h.rd
  exact ⟨own_ne h.own hr.box (by decide) j hj, own_ne h.own h.who (by decide) j hj, (World.ownsRow.lt h.own j hj).1⟩
theorem DcI.keep {w wr W : World} {N p : Nat} {x : Wh} {ka : Option Addr} {kc : Nat} {s : RS} {data : List UInt8} {dv : Value} (h : DcI w wr N p x ka kc s data dv) (hb : Below wr.heap.size wr W) : DcI w W N p x ka kc s data dv := by
  obtain ⟨a, cap, hr⟩ := h.rd
  exact ⟨⟨a, cap, hr.keep hb⟩, (hb.block N (blk_lt h.who)).trans h.who, own_md h.own (Md.ofBelow (F := fun _ => False) hb) (fun _ _ h => h), h.bl.trans (hb.mono h.bl.size)⟩
theorem DcI.add {w wr W : World} {N p : Nat} {x : Wh} {ka : Option Addr} {kc : Nat} {s : RS} {data data' : List UInt8} {dv dv' : Value} (h : DcI w wr N p x ka kc s data dv) (ho : Own W w.heap.size dv' data') (hg : wr.grownBy W dv.ownBlock) : DcI w W N p x ka kc s data' dv' := by
  obtain ⟨a, cap, hr⟩ := h.rd
  exact ⟨⟨a, cap, hr.grown hg (fun j hj => ⟨(h.ne j hj).1, (h.ne j hj).2.2⟩)⟩, keep_blk h.who (Md.ofGrown hg) (fun e => (h.ne N e).2.1 rfl), ho, h.bl.grown hg h.bl.size (fun k hk => (h.ne k hk).2.2)⟩
theorem drewN_below (w : World) (n : Nat) : Below w.heap.size w (w.drewN n) := by
  induction n with
  | zero => exact Below.refl _ _
  | succ n ih => exact ⟨rfl, rfl, rfl, Nat.le_refl _, fun _ _ => rfl⟩
set_option maxRecDepth 20000 in
set_option maxHeartbeats 4000000 in
theorem decode_any (x : Wh) (ka : Option Addr) (kc : Nat) (a : Option Addr) (l : List UInt8) (cap : Nat) (size : Int) (w : World) (hk : x.key.length ≤ kc) (hkl : x.key.length ≤ 1000000000) (hkB : Bytes w ka x.key)
    (h1 : x.date.length ≤ 1000000000) (h2 : x.scope.length ≤ 1000000000) (h3 : x.sig.length ≤ 1000000000)
    (hB : Bytes w a l) (hcap : l.length ≤ cap) (han : a = none → cap = 0) (hlo : ∀ y, a = some y → y.spot = none ∧ y.block < w.heap.size) (hc9 : cap ≤ 9223372036854775807) (hl : l.length ≤ 1000000000) (he : Er w) :
    Calls Tryd.prog 9 #[x.v ka kc, .slice a l.length cap, .int .i64 size] w fun e w' => ∃ v, e = .returned (.tuple #[v, .int .i64 (decL x size l).2]) ∧ Own w' w.heap.size v (decL x size l).1 ∧ Below w.heap.size w w' := by
  have HW := (show Hid (x.key.length ≤ kc ∧ x.key.length ≤ 1000000000 ∧ Bytes w ka x.key ∧ x.date.length ≤ 1000000000 ∧ x.scope.length ≤ 1000000000 ∧ Er w ∧ l.length ≤ 1000000000) from ⟨hk, hkl, hkB, h1, h2, he, hl⟩)
  have HS : Hid (x.sig.length ≤ 1000000000) := h3
  have H3 : Hid (3 < w.heap.size) := by
    obtain ⟨-, e2, h3, -⟩ := he
    exact block_lt_of_cell h3
  obtain ⟨W1, hW1⟩ : ∃ W1, W1 = w.alloc (.cells #[.string ⟨x.id.toArray⟩, .string ⟨x.date.toArray⟩, .string ⟨x.scope.toArray⟩, .string ⟨x.sig.toArray⟩, .slice ka x.key.length kc, .string ⟨x.pay.toArray⟩] 24) := ⟨_, rfl⟩
  obtain ⟨W, hW⟩ : ∃ W, W = W1.alloc (.cells #[.slice a l.length cap, .int .i64 0] 51) := ⟨_, rfl⟩
  obtain ⟨N, hN⟩ : ∃ N, N = w.heap.size := ⟨_, rfl⟩
  obtain ⟨p, hp⟩ : ∃ p, p = w.heap.size + 1 := ⟨_, rfl⟩
  have hp1 : p = W1.heap.size := by rw [hp, hW1]; show _ = (w.heap.push _).size; simp
  have n1 : W1.heap[N]? = some (.cells #[.string ⟨x.id.toArray⟩, .string ⟨x.date.toArray⟩, .string ⟨x.scope.toArray⟩, .string ⟨x.sig.toArray⟩, .slice ka x.key.length kc, .string ⟨x.pay.toArray⟩] 24 (0, 0)) := by rw [hW1, hN]; exact heap_alloc_new w _
  have hb1 : Below w.heap.size w W1 := by rw [hW1]; exact (Below.refl _ _).alloc (Nat.le_refl _) _
  have hb2 : Below W1.heap.size W1 W := by rw [hW]; exact (Below.refl _ _).alloc (Nat.le_refl _) _
  have nN := (hb2.block N (blk_lt n1)).trans n1
  have nP : W.heap[p]? = some (.cells #[.slice a l.length cap, .int .i64 0] 51 (0, 0)) := by rw [hW, hp1]; exact heap_alloc_new W1 _
  have hbW : Below w.heap.size w W := hb1.trans (hb2.mono hb1.size)
  have HI := (show Hid (DcI w W N p x ka kc (l, 0) [] (.slice none 0 0)) from ⟨⟨a, cap, ⟨nP, hB.below hbW (Nat.le_refl _), hcap, han, hlo, by have := hb1.size; omega, hc9⟩⟩, nN, World.ownsRow_nil _ _ _ _, hbW⟩)
  obtain ⟨x0, x1, x2, x3, x4, x5⟩ := six_of nN
  obtain ⟨R, hR⟩ : ∃ R, R = decL x size l := ⟨_, rfl⟩
  have HR : Hid (R = decF x.key x.date x.scope size (l.length + 1) x.sig [] (l, 0)) := hR
  rw [← hR]
  clear hk hkl hkB h1 h2 h3 hB hcap han hlo hc9 hl he n1 hb1 hb2 nN nP hbW hR hp1
  unfold Wh.v
  go_enter Tryd.func9, Tryd.ntmps9
  go_wp2_with fail
  go_step3
  go_wp2_with fail
  rw [← hW1, ← hW, ← hp, ← hN]
  clear hW1 hW hp hN x0 x1 x2 x3 x4 x5
  go_step3
  go_wp2_with fail
  go_loopw [9, 10] (fun lv dv wr => ∃ (n : Nat) (last data : List UInt8) (s : RS), lv = .string ⟨last.toArray⟩ ∧ Hid (DcI w wr N p x ka kc s data dv ∧ s.1.length < n ∧ data.length + s.1.length ≤ 1000000000 ∧ last.length ≤ 1000000000 ∧ R = decF x.key x.date x.scope size n last data s)) (fun _ _ wr => lenAt wr p)
  case atStart => exact ⟨_, _, [], (l, 0), rfl, ⟨HI.out, Nat.lt_succ_self _, by have := HW.out.2.2.2.2.2.2; simpa using this, HS.out, HR.out⟩⟩
  case round =>
    obtain ⟨n, last, data, s, rfl, hi⟩ := hrel
    obtain ⟨va, vc, rfl⟩ := own_slice hi.out.1.own
    obtain ⟨ra, rcap, hrx⟩ := hi.out.1.rd
    have K1 := (show Hid _ from chunk_any p w.heap.size ra rcap s wr hrx (by have := hi.out.2.2.1; omega) (HW.out.2.2.2.2.2.1.below hi.out.1.bl (Nat.le_refl _)) H3.out)
    have hless := ck_less (s := s)
    have hroom := ck_room s
    have hsig := ck_sig s
    have hRn : R = decF x.key x.date x.scope size (n - 1 + 1) last data s := by rw [hi.out.2.2.2.2]; congr 1; have := hi.out.2.1; omega
    rw [decF] at hRn
    have hlen0 := hrx.len_at
    obtain ⟨r, hr⟩ : ∃ r, r = ckS s := ⟨_, rfl⟩
    rw [← hr] at K1 hless hroom hsig hRn
    obtain ⟨SG, hSG⟩ : ∃ SG, SG = sgL x.key x.date x.scope last r.data := ⟨_, rfl⟩
    rw [← hSG] at hRn
    have HM := (show Hid ((r.s.2 = 0 → r.s.1.length < s.1.length) ∧ r.data.length + r.s.1.length ≤ s.1.length ∧ r.sig.length ≤ 64 ∧ lenAt wr p = s.1.length ∧ SG = sgL x.key x.date x.scope last r.data) from ⟨hless, hroom, hsig, hlen0, hSG⟩)
    have HRn := (show Hid _ from hRn)
    clear hless hroom hsig hRn hlen0 hr hSG
    go_wp2_with fail
    refine Calls.mono K1.out ?_
    rintro e w1 ⟨⟨da, dc, rfl, hdc, hdB, hdlo, hdan⟩, ⟨ra1, rc1, hrx1⟩, hmd⟩
    have hnp : N ≠ p := by
      rintro rfl
      have e1 := hi.out.1.who
      rw [hrx.box] at e1
      simp at e1
    have hD1 : DcI w w1 N p x ka kc r.s data (.slice va data.length vc) := ⟨⟨ra1, rc1, hrx1⟩, keep_blk hi.out.1.who hmd hnp, own_md hi.out.1.own hmd (fun j hj => (hi.out.1.ne j hj).1), Md.toBelow hi.out.1.bl hmd (fun b hb e => by have := hrx.bp; omega) (Nat.le_refl _)⟩
    have HD1 := (show Hid _ from hD1)
    have HDA := (show Hid (r.data.length ≤ dc ∧ Bytes w1 da r.data ∧ (∀ y, da = some y → y.spot = none ∧ y.block < w.heap.size) ∧ (da = none → dc = 0)) from ⟨hdc, hdB, hdlo, hdan⟩)
    have c1 : w1.cell? ⟨p, 1, none⟩ = some (.int .i64 r.s.2) := (cell_blk hrx1.box 1).trans rfl
    obtain ⟨x0, x1, x2, x3, x4, x5⟩ := six_of hD1.who
    have HRX := (show Hid _ from hrx1)
    clear hdc hdB hdlo hdan hrx1 hmd hrx hnp hD1 K1
    by_cases hf : r.s.2 = 0
    · rw [hf] at c1
      have K2 := (show Hid _ from sign_any x ka kc last r.data da dc w1 HW.out.1 HW.out.2.1 (HW.out.2.2.1.below HD1.out.bl (Nat.le_refl _)) HDA.out.1 (by have := HM.out.2.1; have := hi.out.2.2.1; omega) HDA.out.2.1 HW.out.2.2.2.1 HW.out.2.2.2.2.1 hi.out.2.2.2.1)
      rw [← HM.out.2.2.2.2] at K2
      unfold Wh.v at K2
      have hRn := HRn.out
      rw [if_pos hf] at hRn
      go_wp2_with fail
      refine Calls.mono K2.out ?_
      rintro e w2 ⟨rfl, hb2⟩
      have HB2 := (show Hid (Below w1.heap.size w1 w2) from hb2)
      clear hb2 K2 c1 x0 x1 x2 x3 x4 x5
      by_cases hs : r.sig = SG
      · rw [if_pos hs] at hRn
        have hq1 : (r.sig == SG) = true := by simp [hs]
        have hq2 : (r.sig != SG) = false := by simp [hs]
        have HS2 := (show Hid _ from hs)
        clear hs
        by_cases hd : r.data = []
        · rw [if_pos hd] at hRn
          have hdl : (r.data.length : Int) = 0 := by rw [hd]; rfl
          have HR2 := (show Hid _ from hRn)
          clear hd hRn
          have HO2 := (show Hid (Own w2 w.heap.size (.slice va data.length vc) data ∧ Below w.heap.size w w2) from ⟨own_md HD1.out.own (Md.ofBelow (F := fun _ => False) HB2.out) (fun _ _ h => h), HD1.out.bl.trans (HB2.out.mono HD1.out.bl.size)⟩)
          by_cases hz : (data.length : Int) = size
          · have HR3 := (show Hid (R = (data, 0)) from by have := HR2.out; rw [if_pos hz] at this; exact this)
            clear HR2
            go_wp2_with fail
            try rw [Exit.noGoto_ret]
            go_ret2
            rw [HR3.out]
            exact ⟨_, rfl, HO2.out⟩
          · have HR3 := (show Hid (R = ([], 307)) from by have := HR2.out; rw [if_neg hz] at this; exact this)
            clear HR2
            go_wp2_with fail
            try rw [Exit.noGoto_ret]
            go_ret2
            rw [HR3.out]
            exact ⟨_, rfl, World.ownsRow_nil _ _ _ _, HO2.out.2⟩
        · have hRn2 := hRn
          rw [if_neg hd] at hRn2
          have HR3 := (show Hid _ from hRn2)
          have hdl : ¬ (r.data.length : Int) = 0 := by
            intro h
            exact hd (List.eq_nil_of_length_eq_zero (by omega))
          have HO2 := (show Hid (Own w2 w.heap.size (.slice va data.length vc) data ∧ Below w.heap.size w w2) from ⟨own_md HD1.out.own (Md.ofBelow (F := fun _ => False) HB2.out) (fun _ _ h => h), HD1.out.bl.trans (HB2.out.mono HD1.out.bl.size)⟩)
          obtain ⟨b, off, rfl, hbs, hcs⟩ := (HDA.out.2.1.below HB2.out (Nat.le_refl _)).at (k := 0) (by cases hx : r.data with
            | nil => exact absurd hx hd
            | cons _ _ => simp)
          have HCS := (show Hid (∀ j u, (bcs r.data)[j]? = some u → w2.cell? ((⟨b, off, none⟩ : Addr).add j) = some u) from bytes_news hcs)
          clear hRn hRn2 hd hbs hcs
          obtain ⟨i0, hi0, hz0, hz1, hz2⟩ := info_parts info5
          have HI0 := (show Hid (Tryd.prog.info? 5 = some i0 ∧ _ ∧ _ ∧ _) from ⟨hi0, hz0, hz1, hz2⟩)
          have HLE := (show Hid (data.length + r.data.length ≤ 1000000000 ∧ r.s.1.length < n - 1 ∧ data.length + r.data.length + r.s.1.length ≤ 1000000000 ∧ r.s.1.length < s.1.length) from by
            have h1 := HM.out.1 hf
            have h2 := HM.out.2.1
            have h3 := hi.out.2.1
            have h4 := hi.out.2.2.1
            show _ ∧ _
            refine ⟨?_, ?_, ?_, ?_⟩ <;> omega)
          have HD2 := (show Hid (DcI w w2 N p x ka kc r.s data (.slice va data.length vc)) from HD1.out.keep HB2.out)
          clear hi0 hz0 hz1 hz2
          go_wp2_with (at_builtin; refine wpList_append_own _ rfl (.tmp 44) (.tmp 45) 22 rfl w.heap.size 5 i0 _ 1 1 Tryd.underlying22 HI0.out.1 HI0.out.2.1 HI0.out.2.2.1 HI0.out.2.2.2 rfl (by omega) (.slice va data.length vc) data.length (bcs data) rfl HO2.out.1 ⟨b, off, none⟩ r.data.length dc (bcs r.data) rfl (by rw [bcs_length]; omega) HCS.out (bcs_one _) (by have := HLE.out; unfold maxLen; omega) (by have := HLE.out; omega) HO2.out.2.size ?_; intro v3 w3 hown3 hg3 _; have HD3 := (show Hid (DcI w w3 N p x ka kc r.s (data ++ r.data) v3) from HD2.out.add (by rw [Own, List.length_append, bcs_append]; exact hown3) hg3); clear hown3 hg3)
          go_roundw
          case rel => exact ⟨n - 1, r.sig, data ++ r.data, r.s, rfl, ⟨HD3.out, HLE.out.2.1, by rw [List.length_append]; exact HLE.out.2.2.1, by have := HM.out.2.2.1; omega, HR3.out⟩⟩
          case measure =>
            obtain ⟨a3, c3, r3⟩ := HD3.out.rd
            rw [r3.len_at, HM.out.2.2.2.1]
            exact HLE.out.2.2.2
      · rw [if_neg hs] at hRn
        have hq1 : (r.sig == SG) = false := by simpa using hs
        have hq2 : (r.sig != SG) = true := by simpa using hs
        have HR3 := (show Hid _ from hRn)
        have HO2 := (show Hid (Below w.heap.size w w2) from HD1.out.bl.trans (HB2.out.mono HD1.out.bl.size))
        clear hs hRn
        go_wp2_with fail
        try rw [Exit.noGoto_ret]
        go_ret2
        rw [HR3.out]
        exact ⟨_, rfl, World.ownsRow_nil _ _ _ _, HO2.out⟩
    · have hRn := HRn.out
      rw [if_neg hf] at hRn
      have HR3 := (show Hid _ from hRn)
      have HO2 := (show Hid (Below w.heap.size w w1) from HD1.out.bl)
      clear hRn
      go_wp2_with fail
      go_quiet (fail)
      go_wp2_with fail
      try rw [Exit.noGoto_ret]
      go_ret2
      rw [HR3.out]
      exact ⟨_, rfl, World.ownsRow_nil _ _ _ _, HO2.out.trans ((drewN_below w1 _).mono HO2.out.size)⟩
end Go.Proofs.YtgpjjlkkfddjnaaDoor
