/-
  The document's Decode.
-/
import Derived.Test.YtgpjjlkkfddjnaaDoorRrE
import Derived.Test.YtgpjjlkkfddjnaaDoorRsB
namespace Go.Proofs.YtgpjjlkkfddjnaaDoor
open Go.RowKit

/-- Where the document's reader in the box p stands. -/
def posAt (w : World) (p : Nat) : Nat := match w.cell? ⟨p, 1, none⟩ with
  | some (.int _ i) => i.toNat
  | _ => 0
theorem Rr.pos_at {w : World} {p B : Nat} {a : Option Addr} {cap : Nat} {l : List UInt8} {k : Nat} {f : Int} (h : Rr w p B a cap l k f) : posAt w p = k := by
  rw [posAt, h.cells.2.1]
  simp
theorem Rr.grown {w W : World} {p B : Nat} {a : Option Addr} {cap : Nat} {l : List UInt8} {k : Nat} {f : Int} {row : Option Nat} (h : Rr w p B a cap l k f) (hg : w.grownBy W row) (hr : ∀ j, row = some j → j ≠ p ∧ B ≤ j) : Rr W p B a cap l k f :=
  ⟨keep_blk h.box (Md.ofGrown hg) (fun e => (hr p e).1 rfl), h.by_.md (Md.ofGrown hg) (fun b off e hb => by have := (h.lo _ e).2; have := (hr b hb).2; simp only at *; omega), h.lo, h.bp, h.kl⟩
/-- What the loop of the document's Decode keeps. -/
structure DrI (w wr : World) (N p : Nat) (x : Wh) (ka : Option Addr) (kc : Nat) (a : Option Addr) (cap : Nat) (l : List UInt8) (s : RS) (data : List UInt8) (dv : Value) : Prop where
  rd : Rep wr p w.heap.size a cap l s
  who : wr.heap[N]? = some (.cells #[.string ⟨x.id.toArray⟩, .string ⟨x.date.toArray⟩, .string ⟨x.scope.toArray⟩, .string ⟨x.sig.toArray⟩, .slice ka x.key.length kc, .string ⟨x.pay.toArray⟩] 30 (0, 0))
  own : Own wr w.heap.size dv data
  bl : Below w.heap.size w wr
section
variable {w wr W : World} {N p : Nat} {x : Wh} {ka : Option Addr} {kc : Nat} {a : Option Addr} {cap : Nat} {l : List UInt8} {s s' : RS} {data data' : List UInt8} {dv dv' : Value}
theorem Rep.box (h : Rep w p N a cap l s) : ∃ k, w.heap[p]? = some (.cells #[.slice a l.length cap, .int .i64 ((k : Nat) : Int), .int .i64 s.2] 56 (0, 0)) := by
  obtain ⟨k, hr, -⟩ := h
  exact ⟨k, hr.box⟩
theorem Rep.keep (h : Rep w p N a cap l s) (hb : Below w.heap.size w W) : Rep W p N a cap l s := by
  obtain ⟨k, hr, hd⟩ := h
  exact ⟨k, hr.keep hb, hd⟩
theorem Rep.grown {row : Option Nat} (h : Rep w p N a cap l s) (hg : w.grownBy W row) (hr : ∀ j, row = some j → j ≠ p ∧ N ≤ j) : Rep W p N a cap l s := by
  obtain ⟨k, hr', hd⟩ := h
  exact ⟨k, hr'.grown hg hr, hd⟩
theorem DrI.np (h : DrI w wr N p x ka kc a cap l s data dv) : N ≠ p := by
  rintro rfl
  obtain ⟨k, e1⟩ := h.rd.box
  rw [h.who] at e1
  simp at e1
theorem DrI.ne (h : DrI w wr N p x ka kc a cap l s data dv) : ∀ j, dv.ownBlock = some j → j ≠ p ∧ j ≠ N ∧ w.heap.size ≤ j := by
  intro j hj
  obtain ⟨k, hr⟩ := h.rd.box
  exact ⟨own_ne h.own hr (by decide) j hj, own_ne h.own h.who (by decide) j hj, (World.ownsRow.lt h.own j hj).1⟩
theorem DrI.bp (h : DrI w wr N p x ka kc a cap l s data dv) : w.heap.size ≤ p := by
  obtain ⟨k, hr, -⟩ := h.rd
  exact hr.bp
theorem DrI.keep (h : DrI w wr N p x ka kc a cap l s data dv) (hb : Below wr.heap.size wr W) : DrI w W N p x ka kc a cap l s data dv :=
  ⟨h.rd.keep hb, (hb.block N (blk_lt h.who)).trans h.who, own_md h.own (Md.ofBelow (F := fun _ => False) hb) (fun _ _ h => h), h.bl.trans (hb.mono h.bl.size)⟩
theorem DrI.turn (h : DrI w wr N p x ka kc a cap l s data dv) (hm : Md (· = p) wr W) (hr : Rep W p w.heap.size a cap l s') : DrI w W N p x ka kc a cap l s' data dv :=
  ⟨hr, keep_blk h.who hm h.np, own_md h.own hm (fun j hj => (h.ne j hj).1), Md.toBelow h.bl hm (fun b hb e => by have := h.bp; omega) (Nat.le_refl _)⟩
theorem DrI.add (h : DrI w wr N p x ka kc a cap l s data dv) (ho : Own W w.heap.size dv' data') (hg : wr.grownBy W dv.ownBlock) : DrI w W N p x ka kc a cap l s data' dv' :=
  ⟨h.rd.grown hg (fun j hj => ⟨(h.ne j hj).1, (h.ne j hj).2.2⟩), keep_blk h.who (Md.ofGrown hg) (fun e => (h.ne N e).2.1 rfl), ho, h.bl.grown hg h.bl.size (fun k hk => (h.ne k hk).2.2)⟩
end
set_option maxRecDepth 20000 in
set_option maxHeartbeats 4000000 in
theorem rdecode_any (x : Wh) (ka : Option Addr) (kc : Nat) (a : Option Addr) (l : List UInt8) (cap : Nat) (size : Int) (w : World) (hx : WhOk w x ka kc) (hkn : ka = none → kc = 0) (hs : Sl w a cap l) (hl : l.length ≤ 1000000000) :
    Calls Tryd.prog 10 #[x.v ka kc, .slice a l.length cap, .int .i64 size] w fun e w' => ∃ v, e = .returned (.tuple #[v, .int .i64 (decL x size l).2]) ∧ Own w' w.heap.size v (decL x size l).1 ∧ Below w.heap.size w w' := by
  have HX := (show Hid (WhOk w x ka kc ∧ (ka = none → kc = 0) ∧ Sl w a cap l ∧ l.length ≤ 1000000000) from ⟨hx, hkn, hs, hl⟩)
  obtain ⟨W1, hW1⟩ : ∃ W1, W1 = w.alloc (.cells #[.string ⟨x.id.toArray⟩, .string ⟨x.date.toArray⟩, .string ⟨x.scope.toArray⟩, .string ⟨x.sig.toArray⟩, .slice ka x.key.length kc, .string ⟨x.pay.toArray⟩] 30) := ⟨_, rfl⟩
  obtain ⟨W, hW⟩ : ∃ W, W = W1.alloc (.cells #[.slice a l.length cap, .int .i64 0, .int .i64 0] 56) := ⟨_, rfl⟩
  obtain ⟨N, hN⟩ : ∃ N, N = w.heap.size := ⟨_, rfl⟩
  obtain ⟨p, hp⟩ : ∃ p, p = w.heap.size + 1 := ⟨_, rfl⟩
  have hp1 : p = W1.heap.size := by rw [hp, hW1]; show _ = (w.heap.push _).size; simp
  have n1 : W1.heap[N]? = some (.cells #[.string ⟨x.id.toArray⟩, .string ⟨x.date.toArray⟩, .string ⟨x.scope.toArray⟩, .string ⟨x.sig.toArray⟩, .slice ka x.key.length kc, .string ⟨x.pay.toArray⟩] 30 (0, 0)) := by rw [hW1, hN]; exact heap_alloc_new w _
  have hb1 : Below w.heap.size w W1 := by rw [hW1]; exact (Below.refl _ _).alloc (Nat.le_refl _) _
  have hb2 : Below W1.heap.size W1 W := by rw [hW]; exact (Below.refl _ _).alloc (Nat.le_refl _) _
  have nN := (hb2.block N (blk_lt n1)).trans n1
  have nP : W.heap[p]? = some (.cells #[.slice a l.length cap, .int .i64 0, .int .i64 0] 56 (0, 0)) := by rw [hW, hp1]; exact heap_alloc_new W1 _
  have hbW : Below w.heap.size w W := hb1.trans (hb2.mono hb1.size)
  have HI := (show Hid (DrI w W N p x ka kc a cap l (l, 0) [] (.slice none 0 0)) from ⟨⟨0, ⟨nP, hs.by_.below hbW (Nat.le_refl _), hs.lo, by omega, Nat.zero_le _⟩, fun _ => rfl⟩, nN, World.ownsRow_nil _ _ _ _, hbW⟩)
  obtain ⟨x0, x1, x2, x3, x4, x5⟩ := six_of nN
  obtain ⟨R, hR⟩ : ∃ R, R = decL x size l := ⟨_, rfl⟩
  have HR : Hid (R = decF x.key x.date x.scope size (l.length + 1) x.sig [] (l, 0)) := hR
  rw [← hR]
  clear hx hkn hs hl n1 hb1 hb2 nN nP hbW hR hp1
  unfold Wh.v
  go_enter Tryd.func10, Tryd.ntmps10
  go_wp2_with fail
  rw [← hW1, ← hW, ← hp, ← hN]
  clear hW1 hW hp hN x0 x1 x2 x3 x4 x5
  go_loopw [9, 10] (fun lv dv wr => ∃ (n : Nat) (last data m : List UInt8), lv = .string ⟨last.toArray⟩ ∧ Hid (DrI w wr N p x ka kc a cap l (m, 0) data dv ∧ m.length < n ∧ data.length + m.length ≤ 1000000000 ∧ last.length ≤ 1000000000 ∧ R = decF x.key x.date x.scope size n last data (m, 0))) (fun _ _ wr => l.length - posAt wr p)
  case atStart => exact ⟨_, _, [], l, rfl, ⟨HI.out, Nat.lt_succ_self _, by have := HX.out.2.2.2; simpa using this, HX.out.1.sig, HR.out⟩⟩
  case round =>
    obtain ⟨n, last, data, m, rfl, hi⟩ := hrel
    obtain ⟨va, vc, rfl⟩ := own_slice hi.out.1.own
    obtain ⟨k, hrk, hdk⟩ := hi.out.1.rd
    have hm : l.drop k = m := hdk rfl
    have HK := (show Hid (l.drop k = m ∧ posAt wr p = k ∧ m.length = l.length - k ∧ k ≤ l.length) from ⟨hm, hrk.pos_at, by rw [← hm, List.length_drop], hrk.kl⟩)
    have K1 := (show Hid _ from size_any p w.heap.size a cap l k wr hrk HX.out.2.2.2)
    rw [hm] at K1
    clear hrk hdk hm
    go_wp2_with fail
    refine Calls.mono K1.out ?_
    rintro e w1 ⟨rfl, hrp1, hm1⟩
    have I1 := (show Hid _ from hi.out.1.turn hm1 hrp1)
    have K2 := (show Hid (Calls Tryd.prog 21 #[.pointer (some ⟨p, 0, none⟩), .string ⟨#[59, 99, 104, 117, 110, 107, 45, 115, 105, 103, 110, 97, 116, 117, 114, 101, 61]⟩] w1 fun e w' => e = .returned (.tuple #[]) ∧ Rep w' p w.heap.size a cap l (txS sigT (szS (m, 0))) ∧ Md (· = p) w1 w') from eat_any p w.heap.size a cap l (szS (m, 0)) sigT w1 hrp1 HX.out.2.2.2 (by decide))
    clear hrp1 hm1 K1
    go_wp2_with fail
    refine Calls.mono K2.out ?_
    rintro e w2 ⟨rfl, hrp2, hm2⟩
    have I2 := (show Hid _ from I1.out.turn hm2 hrp2)
    have K3 := (show Hid _ from name_any p w.heap.size a cap l (txS sigT (szS (m, 0))) w2 hrp2 HX.out.2.2.2 HX.out.2.2.1.cap)
    clear hrp2 hm2 K2 I1
    go_wp2_with fail
    refine Calls.mono K3.out ?_
    rintro e w3 ⟨⟨S, rfl, hSl, hSe⟩, hrp3, hm3⟩
    have I3 := (show Hid _ from I2.out.turn hm3 hrp3)
    have HS := (show Hid (S.length ≤ 1000000000 ∧ ((hdS m).2 = 0 → S = nmL m)) from ⟨hSl, fun h => hSe (tx_ok h).1⟩)
    have K4 := (show Hid (Calls Tryd.prog 21 #[.pointer (some ⟨p, 0, none⟩), .string ⟨#[13, 10]⟩] w3 fun e w' => e = .returned (.tuple #[]) ∧ Rep w' p w.heap.size a cap l (hdS m) ∧ Md (· = p) w3 w') from eat_any p w.heap.size a cap l _ crT w3 hrp3 HX.out.2.2.2 (by decide))
    clear hrp3 hm3 K3 I2 hSl hSe
    obtain ⟨SS, hSS⟩ : ∃ SS : ByteArray, SS = ⟨S.toArray⟩ := ⟨_, rfl⟩
    have HSS := (show Hid (SS = ⟨S.toArray⟩) from hSS)
    rw [← hSS]
    clear hSS
    obtain ⟨nn, hnn⟩ : ∃ nn, nn = szN (m, 0) := ⟨_, rfl⟩
    have HNN := (show Hid (nn = szN (m, 0) ∧ nn < 4294967296) from ⟨hnn, by rw [hnn]; exact szN_le m⟩)
    rw [← hnn]
    clear hnn
    go_wp2_with fail
    refine Calls.mono K4.out ?_
    rintro e w4 ⟨rfl, hrp4, hm4⟩
    have I4 := (show Hid _ from I3.out.turn hm4 hrp4)
    obtain ⟨k4, hr4, hd4⟩ := hrp4
    obtain ⟨c0, c1, c2, f1, f2⟩ := hr4.cells
    have HR4 := (show Hid (Rr w4 p w.heap.size a cap l k4 (hdS m).2 ∧ ((hdS m).2 = 0 → l.drop k4 = (hdS m).1)) from ⟨hr4, hd4⟩)
    obtain ⟨ck1, ck2⟩ := ck_ref m
    have HC1 := (show Hid _ from ck1)
    have HC2 := (show Hid _ from ck2)
    have hRn : R = decF x.key x.date x.scope size (n - 1 + 1) last data (m, 0) := by rw [hi.out.2.2.2.2]; congr 1; have := hi.out.2.1; omega
    rw [decF] at hRn
    have HRn := (show Hid _ from hRn)
    clear hm4 K4 I3 hr4 hd4 ck1 ck2 hRn
    by_cases hf : (hdS m).2 = 0
    · rw [hf] at c2
      obtain ⟨q, hq⟩ : ∃ q, q = (hdS m).1 := ⟨_, rfl⟩
      have HQ := (show Hid (q = l.drop k4 ∧ q.length = l.length - k4 ∧ k4 ≤ l.length ∧ l.length ≤ cap ∧ cap ≤ 9223372036854775807) from by
        have h1 := HR4.out.2 hf
        exact ⟨by rw [hq, h1], by rw [hq, ← h1, List.length_drop], HR4.out.1.kl, HX.out.2.2.1.cap, HX.out.2.2.1.max⟩)
      obtain ⟨cs, cl, cg⟩ := HC2.out hf
      rw [← hq, ← HNN.out.1] at cl cg
      have HRR := (show Hid (Rr w4 p w.heap.size a cap l k4 0) from by have := HR4.out.1; rw [hf] at this; exact this)
      have HSN := (show Hid (S = nmL m ∧ (ckS (m, 0)).sig = nmL m) from ⟨HS.out.2 hf, cs⟩)
      have hwr : IntKind.i64.wrap ((l.length : Int) - (k4 : Int)) = (l.length : Int) - (k4 : Int) := by have := HX.out.2.2.2; have := HQ.out.2.2.1; rw [IntKind.wrap_i64]; omega
      by_cases hlt : q.length < nn
      · have HRf := (show Hid (R = ([], 307)) from by have h := HRn.out; rw [cl hlt] at h; exact h)
        have hgt : (l.length : Int) - (k4 : Int) < (nn : Int) := by have := HQ.out; omega
        clear cs cl cg hq hf hlt
        go_wp2_with fail
        try rw [Exit.noGoto_ret]
        go_ret2
        rw [HRf.out]
        exact ⟨_, rfl, World.ownsRow_nil _ _ _ _, I4.out.bl⟩
      · have hgt : ¬ (l.length : Int) - (k4 : Int) < (nn : Int) := by have := HQ.out; omega
        have hgt2 : (nn : Int) ≤ (l.length : Int) - (k4 : Int) := by omega
        obtain ⟨cg1, cg2⟩ := cg (by omega)
        have HCG := (show Hid ((ckS (m, 0)).data = q.take nn ∧ nn ≤ q.length ∧ (ckS (m, 0)).s = if nn = 0 then exS (decide ((txS crT (q.drop nn, 0)).1 = [])) (txS crT (q.drop nn, 0)) else txS crT (q.drop nn, 0)) from ⟨cg1, by omega, cg2⟩)
        have hwa : IntKind.i64.wrap ((k4 : Int) + (nn : Int)) = (k4 : Int) + (nn : Int) := by have := HX.out.2.2.2; have := HQ.out; rw [IntKind.wrap_i64]; omega
        have hk40 : (0 : Int) ≤ (k4 : Int) := by omega
        have hkn0 : (0 : Int) ≤ (k4 : Int) + (nn : Int) := by omega
        have hkn1 : (k4 : Int) ≤ (k4 : Int) + (nn : Int) := by omega
        have hkn2 : (k4 : Int) + (nn : Int) ≤ (cap : Int) := by have := HQ.out; omega
        have htn : ((k4 : Int) + (nn : Int)).toNat = k4 + nn := by omega
        have hl0 : 0 < l.length := by
          have h1 : m ≠ [] := by
            intro e
            rw [e, hd_nil] at hf
            cases hf
          have h2 := HK.out.2.2.1
          have h3 := List.length_pos_iff.2 h1
          omega
        clear cs cl cg cg1 cg2 hq hf hlt
        by_cases hz : nn = 0
        · obtain ⟨b, off, rfl, hbs, hcs⟩ := HRR.out.by_.at (k := 0) hl0
          clear hbs hcs hl0
          have HZ := (show Hid (nn = 0) from hz)
          clear hz
          by_cases hck : cap = k4
          · subst hck
            have hq0 : q = [] := List.eq_nil_of_length_eq_zero (by have := HQ.out; omega)
            have htk : cap + nn - cap = nn := by omega
            go_wp2_with fail
            go_upto_region 12 with fail
            go_region_held3 (fun w' => w'.cell? ⟨p, 1, none⟩ = some (.int .i64 (cap : Int))) (go_keep) (fail)
            go_wp2_with fail
            obtain ⟨w5, hw5⟩ : ∃ w5, w5 = (w4.setCell ⟨p, 1, none⟩ (.int .i64 ((cap : Int) + (nn : Int)))).drew := ⟨_, rfl⟩
            have hm5 : Md (· = p) w4 w5 := by rw [hw5]; exact ((Md.refl _ _).setp _ _).drew
            have hr5 : Rep w5 p w.heap.size (some ⟨b, off, none⟩) cap l (q.drop nn, 0) := ⟨cap + nn, HRR.out.turn hm5 (by have := HQ.out; have := HCG.out.2.1; omega) (by
              rw [hw5]
              show (World.setCell w4 ⟨p, 1, none⟩ _).heap[p]? = _
              rw [set_blk HRR.out.box, show ((cap + nn : Nat) : Int) = (cap : Int) + (nn : Int) from by omega]
              rfl), fun _ => by rw [HQ.out.1, List.drop_drop]⟩
            have I5 := (show Hid _ from I4.out.turn hm5 hr5)
            rw [← hw5]
            have K5 := (show Hid (Calls Tryd.prog 21 #[.pointer (some ⟨p, 0, none⟩), .string ⟨#[13, 10]⟩] w5 fun e w' => e = .returned (.tuple #[]) ∧ Rep w' p w.heap.size (some ⟨b, off, none⟩) cap l (txS crT (q.drop nn, 0)) ∧ Md (· = p) w5 w') from eat_any p w.heap.size _ cap l _ crT w5 hr5 HX.out.2.2.2 (by decide))
            have hsz : (ckS (m, 0)).s = exS (decide ((txS crT (q.drop nn, 0)).1 = [])) (txS crT (q.drop nn, 0)) := by rw [HCG.out.2.2, if_pos HZ.out]
            obtain ⟨⟨m6, f6⟩, hs6⟩ : ∃ s6, s6 = txS crT (q.drop nn, 0) := ⟨_, rfl⟩
            have hf6 : ¬ f6 = 0 := by
              have h := hs6
              rw [hq0, List.drop_nil, cr_nil] at h
              rw [(Prod.mk.inj h).2]
              decide
            rw [← hs6] at K5 hsz
            have HE6 := (show Hid ((ckS (m, 0)).s = exS (decide (m6 = [])) (m6, f6)) from hsz)
            clear hs6 hsz hw5 hm5 hr5 c0 c1 c2 f1 f2 hwr hwa hgt hgt2 hk40 hkn0 hkn1 hkn2 htn I4 HR4
            refine Calls.mono K5.out ?_
            rintro e w6 ⟨rfl, hrp6, hm6⟩
            have I6 := (show Hid _ from I5.out.turn hm6 hrp6)
            obtain ⟨k6, hr6, hd6⟩ := hrp6
            obtain ⟨c0, c1, c2, f1, f2⟩ := hr6.cells
            have HR6 := (show Hid (Rr w6 p w.heap.size (some ⟨b, off, none⟩) cap l k6 f6 ∧ (f6 = 0 → l.drop k6 = m6)) from ⟨hr6, hd6⟩)
            clear hr6 hd6 hm6 K5 I5
            have hzi : (nn : Int) = 0 := by have := HZ.out; omega
            have HR7 := (show Hid (R = ([], f6)) from by have h := HRn.out; rw [HE6.out, exS_fault hf6] at h; rw [if_neg hf6] at h; exact h)
            go_wp2_with fail
            go_quiet (fail)
            go_wp2_with fail
            try rw [Exit.noGoto_ret]
            go_ret2
            rw [HR7.out]
            exact ⟨_, rfl, World.ownsRow_nil _ _ _ _, I6.out.bl.trans ((drewN_below _ _).mono I6.out.bl.size)⟩
          · have htk : k4 + nn - k4 = nn := by omega
            go_wp2_with fail
            go_upto_region 12 with fail
            go_region_held3 (fun w' => w'.cell? ⟨p, 1, none⟩ = some (.int .i64 (k4 : Int))) (go_keep) (fail)
            go_wp2_with fail
            obtain ⟨w5, hw5⟩ : ∃ w5, w5 = (w4.setCell ⟨p, 1, none⟩ (.int .i64 ((k4 : Int) + (nn : Int)))).drew := ⟨_, rfl⟩
            have hm5 : Md (· = p) w4 w5 := by rw [hw5]; exact ((Md.refl _ _).setp _ _).drew
            have hr5 : Rep w5 p w.heap.size (some ⟨b, off, none⟩) cap l (q.drop nn, 0) := ⟨k4 + nn, HRR.out.turn hm5 (by have := HQ.out; have := HCG.out.2.1; omega) (by
              rw [hw5]
              show (World.setCell w4 ⟨p, 1, none⟩ _).heap[p]? = _
              rw [set_blk HRR.out.box, show ((k4 + nn : Nat) : Int) = (k4 : Int) + (nn : Int) from by omega]
              rfl), fun _ => by rw [HQ.out.1, List.drop_drop]⟩
            have I5 := (show Hid _ from I4.out.turn hm5 hr5)
            rw [← hw5]
            have K5 := (show Hid (Calls Tryd.prog 21 #[.pointer (some ⟨p, 0, none⟩), .string ⟨#[13, 10]⟩] w5 fun e w' => e = .returned (.tuple #[]) ∧ Rep w' p w.heap.size (some ⟨b, off, none⟩) cap l (txS crT (q.drop nn, 0)) ∧ Md (· = p) w5 w') from eat_any p w.heap.size _ cap l _ crT w5 hr5 HX.out.2.2.2 (by decide))
            have hsz : (ckS (m, 0)).s = exS (decide ((txS crT (q.drop nn, 0)).1 = [])) (txS crT (q.drop nn, 0)) := by rw [HCG.out.2.2, if_pos HZ.out]
            obtain ⟨⟨m6, f6⟩, hs6⟩ : ∃ s6, s6 = txS crT (q.drop nn, 0) := ⟨_, rfl⟩
            rw [← hs6] at K5 hsz
            have HE6 := (show Hid ((ckS (m, 0)).s = exS (decide (m6 = [])) (m6, f6)) from hsz)
            clear hs6 hsz hw5 hm5 hr5 c0 c1 c2 f1 f2 hwr hwa hgt hgt2 hk40 hkn0 hkn1 hkn2 htn I4 HR4
            refine Calls.mono K5.out ?_
            rintro e w6 ⟨rfl, hrp6, hm6⟩
            have I6 := (show Hid _ from I5.out.turn hm6 hrp6)
            obtain ⟨k6, hr6, hd6⟩ := hrp6
            obtain ⟨c0, c1, c2, f1, f2⟩ := hr6.cells
            have HR6 := (show Hid (Rr w6 p w.heap.size (some ⟨b, off, none⟩) cap l k6 f6 ∧ (f6 = 0 → l.drop k6 = m6)) from ⟨hr6, hd6⟩)
            clear hr6 hd6 hm6 K5 I5
            have hzi : (nn : Int) = 0 := by have := HZ.out; omega
            by_cases hf6 : f6 = 0
            · subst hf6
              by_cases hk6 : k6 = l.length
              · have hm60 : m6 = [] := by rw [← HR6.out.2 rfl, hk6, List.drop_length]
                have hex : exS (decide (m6 = [])) ((m6, 0) : RS) = (m6, 0) := by rw [hm60]; rfl
                have HE7 := (show Hid ((ckS (m, 0)).s = (m6, 0)) from by have := HE6.out; rw [hex] at this; exact this)
                have hk6i : (k6 : Int) = (l.length : Int) := by omega
                obtain ⟨x0, x1, x2, x3, x4, x5⟩ := six_of I6.out.who
                have hql : (q.take nn).length = nn := by rw [List.length_take]; have := HCG.out.2.1; omega
                have hB6 : Bytes w6 (some ⟨b, off + k4, none⟩) (q.take nn) := by
                  have := bytes_from (k := k4) HR6.out.1.by_ HQ.out.2.2.2.1
                  rw [fromA, if_neg hck, Option.map_some, Addr.add_lit, ← HQ.out.1] at this
                  exact bytes_take nn this
                have K7 := (show Hid _ from rsign_any x ka kc last (q.take nn) (some ⟨b, off + k4, none⟩) (cap - k4) w6 (HX.out.1.below I6.out.bl) HX.out.2.1 (by rw [hql]; have := HZ.out; omega) hB6 hi.out.2.2.2.1)
                rw [hql] at K7
                obtain ⟨SG, hSG⟩ : ∃ SG, SG = sgL x.key x.date x.scope last (q.take nn) := ⟨_, rfl⟩
                rw [← hSG] at K7
                unfold Wh.v at K7
                have HQL := (show Hid ((q.take nn).length = nn ∧ q.take nn = []) from ⟨hql, List.eq_nil_of_length_eq_zero (by rw [hql]; exact HZ.out)⟩)
                have hdn : q.take nn = [] := HQL.out.2
                have hRn := HRn.out
                rw [HE7.out, if_pos rfl, HSN.out.2, HCG.out.1, ← hSG, ← HSN.out.1, if_pos hdn] at hRn
                have HR7 := (show Hid _ from hRn)
                clear hql hB6 hSG hRn hdn hk6 hm60 hex hzi
                obtain rfl : SS = ⟨S.toArray⟩ := HSS.out
                have hzi : (nn : Int) = 0 := by have := HZ.out; omega
                go_wp2_with fail
                refine Calls.mono K7.out ?_
                rintro e w7 ⟨rfl, hb7⟩
                have I7 := (show Hid _ from I6.out.keep hb7)
                clear hb7 K7 c0 c1 c2 f1 f2 x0 x1 x2 x3 x4 x5
                by_cases hs : S = SG
                · have hq1 : (SG == S) = true := by simp [hs]
                  have hq2 : (SG != S) = false := by simp [hs]
                  have hR8 := HR7.out
                  rw [if_pos hs] at hR8
                  have HR8 := (show Hid _ from hR8)
                  have HCS := (show Hid (∀ j u, (bcs (q.take nn))[j]? = some u → w7.cell? ((⟨b, off + k4, none⟩ : Addr).add j) = some u) from fun j u h => by rw [HQL.out.2] at h; simp [bcs] at h)
                  clear hR8 hs
                  obtain ⟨i0, hi0, hz0, hz1, hz2⟩ := info_parts info5
                  have HI0 := (show Hid (Tryd.prog.info? 5 = some i0 ∧ _ ∧ _ ∧ _) from ⟨hi0, hz0, hz1, hz2⟩)
                  have HDL := (show Hid (data.length ≤ 1000000000) from by have := hi.out.2.2.1; show _ ≤ _; omega)
                  clear hi0 hz0 hz1 hz2
                  by_cases hz : (data.length : Int) = size
                  · have HR9 := (show Hid (R = (data, 0)) from by have := HR8.out; rw [if_pos hz] at this; exact this)
                    go_wp2_with (at_builtin; refine wpList_append_own _ rfl (.tmp 105) (.tmp 106) 22 rfl w.heap.size 5 i0 _ 1 1 Tryd.underlying22 HI0.out.1 HI0.out.2.1 HI0.out.2.2.1 HI0.out.2.2.2 rfl (by omega) (.slice va data.length vc) data.length (bcs data) rfl I7.out.own ⟨b, off + k4, none⟩ nn (cap - k4) (bcs (q.take nn)) rfl (by rw [bcs_length, HQL.out.1]; omega) HCS.out (bcs_one _) (by have := HDL.out; have := HZ.out; unfold maxLen; omega) (by have := HDL.out; have := HZ.out; omega) I7.out.bl.size ?_; intro v3 w8 hown3 hg3 _; have HO3 := (show Hid (Own w8 w.heap.size v3 data ∧ Below w.heap.size w w8) from ⟨by rw [HQL.out.2, HZ.out] at hown3; simpa [Own, bcs] using hown3, (I7.out.add (data' := data ++ q.take nn) (by rw [Own, List.length_append, HQL.out.1, bcs_append]; exact hown3) hg3).bl⟩); obtain ⟨va3, vc3, rfl⟩ := own_slice hown3; clear hown3 hg3)
                    try rw [Exit.noGoto_ret]
                    go_ret2
                    rw [HR9.out]
                    exact ⟨_, rfl, HO3.out⟩
                  · have HR9 := (show Hid (R = ([], 307)) from by have := HR8.out; rw [if_neg hz] at this; exact this)
                    go_wp2_with (at_builtin; refine wpList_append_own _ rfl (.tmp 105) (.tmp 106) 22 rfl w.heap.size 5 i0 _ 1 1 Tryd.underlying22 HI0.out.1 HI0.out.2.1 HI0.out.2.2.1 HI0.out.2.2.2 rfl (by omega) (.slice va data.length vc) data.length (bcs data) rfl I7.out.own ⟨b, off + k4, none⟩ nn (cap - k4) (bcs (q.take nn)) rfl (by rw [bcs_length, HQL.out.1]; omega) HCS.out (bcs_one _) (by have := HDL.out; have := HZ.out; unfold maxLen; omega) (by have := HDL.out; have := HZ.out; omega) I7.out.bl.size ?_; intro v3 w8 hown3 hg3 _; have HO3 := (show Hid (Own w8 w.heap.size v3 data ∧ Below w.heap.size w w8) from ⟨by rw [HQL.out.2, HZ.out] at hown3; simpa [Own, bcs] using hown3, (I7.out.add (data' := data ++ q.take nn) (by rw [Own, List.length_append, HQL.out.1, bcs_append]; exact hown3) hg3).bl⟩); obtain ⟨va3, vc3, rfl⟩ := own_slice hown3; clear hown3 hg3)
                    try rw [Exit.noGoto_ret]
                    go_ret2
                    rw [HR9.out]
                    exact ⟨_, rfl, World.ownsRow_nil _ _ _ _, HO3.out.2⟩
                · have hq1 : (SG == S) = false := by simp; exact fun e => hs e.symm
                  have hq2 : (SG != S) = true := by simp; exact fun e => hs e.symm
                  have hR8 := HR7.out
                  rw [if_neg hs] at hR8
                  have HR8 := (show Hid _ from hR8)
                  clear hR8 hs
                  go_wp2_with fail
                  try rw [Exit.noGoto_ret]
                  go_ret2
                  rw [HR8.out]
                  exact ⟨_, rfl, World.ownsRow_nil _ _ _ _, I7.out.bl⟩
              · have hm60 : ¬ m6 = [] := by
                  intro e
                  have h1 := HR6.out.2 rfl
                  rw [e] at h1
                  have := congrArg List.length h1
                  simp only [List.length_drop, List.length_nil] at this
                  have := HR6.out.1.kl
                  omega
                have hex : exS (decide (m6 = [])) ((m6, 0) : RS) = (m6, 308) := by simp [exS, hm60]
                have HR7 := (show Hid (R = ([], 308)) from by have h := HRn.out; rw [HE6.out, hex] at h; exact h)
                have hk6i : ¬ (k6 : Int) = (l.length : Int) := by omega
                clear hm60 hex hk6
                go_wp2_with fail
                go_quiet (fail)
                go_wp2_with fail
                try rw [Exit.noGoto_ret]
                go_ret2
                rw [HR7.out]
                exact ⟨_, rfl, World.ownsRow_nil _ _ _ _, Md.toBelow I6.out.bl (((Md.refl _ _).setp _ _).below (drewN_below _ _)) (fun b hb e => by have := I6.out.bp; omega) (Nat.le_refl _)⟩
            · have HR7 := (show Hid (R = ([], f6)) from by have h := HRn.out; rw [HE6.out, exS_fault hf6] at h; rw [if_neg hf6] at h; exact h)
              go_wp2_with fail
              go_quiet (fail)
              go_wp2_with fail
              try rw [Exit.noGoto_ret]
              go_ret2
              rw [HR7.out]
              exact ⟨_, rfl, World.ownsRow_nil _ _ _ _, I6.out.bl.trans ((drewN_below _ _).mono I6.out.bl.size)⟩
        · clear hl0
          have hzi : ¬ (nn : Int) = 0 := by omega
          have hck : ¬ cap = k4 := by have := HQ.out; omega
          obtain ⟨b, off, rfl, hbs, hcs⟩ := HRR.out.by_.at (k := k4) (by have := HQ.out; have := HCG.out.2.1; omega)
          clear hbs hcs
          have htk : k4 + nn - k4 = nn := by omega
          go_wp2_with fail
          go_upto_region 12 with fail
          go_region_held3 (fun w' => w'.cell? ⟨p, 1, none⟩ = some (.int .i64 (k4 : Int))) (go_keep) (fail)
          go_wp2_with fail
          obtain ⟨w5, hw5⟩ : ∃ w5, w5 = (w4.setCell ⟨p, 1, none⟩ (.int .i64 ((k4 : Int) + (nn : Int)))).drew := ⟨_, rfl⟩
          have hm5 : Md (· = p) w4 w5 := by rw [hw5]; exact ((Md.refl _ _).setp _ _).drew
          have hr5 : Rep w5 p w.heap.size (some ⟨b, off, none⟩) cap l (q.drop nn, 0) := ⟨k4 + nn, HRR.out.turn hm5 (by have := HQ.out; have := HCG.out.2.1; omega) (by
            rw [hw5]
            show (World.setCell w4 ⟨p, 1, none⟩ _).heap[p]? = _
            rw [set_blk HRR.out.box, show ((k4 + nn : Nat) : Int) = (k4 : Int) + (nn : Int) from by omega]
            rfl), fun _ => by rw [HQ.out.1, List.drop_drop]⟩
          have I5 := (show Hid _ from I4.out.turn hm5 hr5)
          rw [← hw5]
          have K5 := (show Hid (Calls Tryd.prog 21 #[.pointer (some ⟨p, 0, none⟩), .string ⟨#[13, 10]⟩] w5 fun e w' => e = .returned (.tuple #[]) ∧ Rep w' p w.heap.size (some ⟨b, off, none⟩) cap l (txS crT (q.drop nn, 0)) ∧ Md (· = p) w5 w') from eat_any p w.heap.size _ cap l _ crT w5 hr5 HX.out.2.2.2 (by decide))
          have hsz : (ckS (m, 0)).s = txS crT (q.drop nn, 0) := by rw [HCG.out.2.2, if_neg hz]
          obtain ⟨⟨m6, f6⟩, hs6⟩ : ∃ s6, s6 = txS crT (q.drop nn, 0) := ⟨_, rfl⟩
          rw [← hs6] at K5 hsz
          have HE6 := (show Hid ((ckS (m, 0)).s = (m6, f6)) from hsz)
          clear hs6 hsz hw5 hm5 hr5 c0 c1 c2 f1 f2 hwr hwa hgt hgt2 hk40 hkn0 hkn1 hkn2 htn I4 HR4 hzi
          refine Calls.mono K5.out ?_
          rintro e w6 ⟨rfl, hrp6, hm6⟩
          have I6 := (show Hid _ from I5.out.turn hm6 hrp6)
          obtain ⟨k6, hr6, hd6⟩ := hrp6
          obtain ⟨c0, c1, c2, f1, f2⟩ := hr6.cells
          have HR6 := (show Hid (Rr w6 p w.heap.size (some ⟨b, off, none⟩) cap l k6 f6) from hr6)
          clear hr6 hd6 hm6 K5 I5
          have hzi : ¬ (nn : Int) = 0 := by omega
          by_cases hf6 : f6 = 0
          · subst hf6
            obtain ⟨x0, x1, x2, x3, x4, x5⟩ := six_of I6.out.who
            have hql : (q.take nn).length = nn := by rw [List.length_take]; have := HCG.out.2.1; omega
            have hB6 : Bytes w6 (some ⟨b, off + k4, none⟩) (q.take nn) := by
              have := bytes_from (k := k4) HR6.out.by_ HQ.out.2.2.2.1
              rw [fromA, if_neg hck, Option.map_some, Addr.add_lit, ← HQ.out.1] at this
              exact bytes_take nn this
            have HB6 := (show Hid (Bytes w6 (some ⟨b, off + k4, none⟩) (q.take nn)) from hB6)
            have K7 := (show Hid _ from rsign_any x ka kc last (q.take nn) (some ⟨b, off + k4, none⟩) (cap - k4) w6 (HX.out.1.below I6.out.bl) HX.out.2.1 (by rw [hql]; have := HQ.out; have := HCG.out.2.1; have := HX.out.2.2.2; omega) hB6 hi.out.2.2.2.1)
            rw [hql] at K7
            obtain ⟨SG, hSG⟩ : ∃ SG, SG = sgL x.key x.date x.scope last (q.take nn) := ⟨_, rfl⟩
            rw [← hSG] at K7
            unfold Wh.v at K7
            have HQL := (show Hid ((q.take nn).length = nn) from hql)
            have hdn : ¬ q.take nn = [] := by
              intro e
              rw [e] at hql
              exact hz hql.symm
            have hRn := HRn.out
            rw [HE6.out, if_pos rfl, HSN.out.2, HCG.out.1, ← hSG, ← HSN.out.1, if_neg hdn] at hRn
            have HR7 := (show Hid _ from hRn)
            have HLE := (show Hid (m6.length < m.length ∧ nn + m6.length ≤ m.length ∧ data.length + nn ≤ 1000000000 ∧ m6.length < n - 1 ∧ data.length + nn + m6.length ≤ 1000000000) from by
              have h1 := ck_less (s := (m, 0)) (by rw [HE6.out])
              have h2 := ck_room (m, 0)
              rw [HE6.out] at h1 h2
              rw [HCG.out.1, hql] at h2
              have h3 := hi.out.2.1
              have h4 := hi.out.2.2.1
              simp only at h1 h2
              show _ ∧ _
              refine ⟨?_, ?_, ?_, ?_, ?_⟩ <;> omega)
            clear hql hB6 hSG hRn hdn
            obtain rfl : SS = ⟨S.toArray⟩ := HSS.out
            go_wp2_with fail
            refine Calls.mono K7.out ?_
            rintro e w7 ⟨rfl, hb7⟩
            have I7 := (show Hid _ from I6.out.keep hb7)
            have HB7 := (show Hid (Bytes w7 (some ⟨b, off + k4, none⟩) (q.take nn)) from HB6.out.below hb7 (Nat.le_refl _))
            clear hb7 K7 c0 c1 c2 f1 f2 x0 x1 x2 x3 x4 x5
            by_cases hs : S = SG
            · have hq1 : (SG == S) = true := by simp [hs]
              have hq2 : (SG != S) = false := by simp [hs]
              have hR8 := HR7.out
              rw [if_pos hs] at hR8
              have HR8 := (show Hid _ from hR8)
              clear hR8 hs
              obtain ⟨b', off', e', hbs, hcs⟩ := HB7.out.at (k := 0) (by rw [HQL.out]; omega)
              obtain ⟨rfl, rfl⟩ : b = b' ∧ off + k4 = off' := by simpa using e'
              have HCS := (show Hid (∀ j u, (bcs (q.take nn))[j]? = some u → w7.cell? ((⟨b, off + k4, none⟩ : Addr).add j) = some u) from bytes_news hcs)
              clear hbs hcs e'
              obtain ⟨i0, hi0, hz0, hz1, hz2⟩ := info_parts info5
              have HI0 := (show Hid (Tryd.prog.info? 5 = some i0 ∧ _ ∧ _ ∧ _) from ⟨hi0, hz0, hz1, hz2⟩)
              clear hi0 hz0 hz1 hz2
              go_wp2_with (at_builtin; refine wpList_append_own _ rfl (.tmp 105) (.tmp 106) 22 rfl w.heap.size 5 i0 _ 1 1 Tryd.underlying22 HI0.out.1 HI0.out.2.1 HI0.out.2.2.1 HI0.out.2.2.2 rfl (by omega) (.slice va data.length vc) data.length (bcs data) rfl I7.out.own ⟨b, off + k4, none⟩ nn (cap - k4) (bcs (q.take nn)) rfl (by rw [bcs_length, HQL.out]; omega) HCS.out (bcs_one _) (by have := HLE.out; unfold maxLen; omega) (by have := HLE.out; omega) I7.out.bl.size ?_; intro v3 w8 hown3 hg3 _; have I8 := (show Hid (DrI w w8 N p x ka kc (some ⟨b, off, none⟩) cap l (m6, 0) (data ++ q.take nn) v3) from I7.out.add (by rw [Own, List.length_append, HQL.out, bcs_append]; exact hown3) hg3); clear hown3 hg3)
              go_roundw
              case rel => exact ⟨n - 1, S, data ++ q.take nn, m6, rfl, ⟨I8.out, HLE.out.2.2.2.1, by rw [List.length_append, HQL.out]; exact HLE.out.2.2.2.2, HS.out.1, HR8.out⟩⟩
              case measure =>
                obtain ⟨k8, hr8, hd8⟩ := I8.out.rd
                have h8 := hd8 rfl
                have h9 := congrArg List.length h8
                simp only [List.length_drop] at h9
                have := HK.out
                have := HLE.out.1
                have := hr8.kl
                rw [hr8.pos_at, HK.out.2.1]
                omega
            · have hq1 : (SG == S) = false := by simp; exact fun e => hs e.symm
              have hq2 : (SG != S) = true := by simp; exact fun e => hs e.symm
              have hR8 := HR7.out
              rw [if_neg hs] at hR8
              have HR8 := (show Hid _ from hR8)
              clear hR8 hs
              go_wp2_with fail
              try rw [Exit.noGoto_ret]
              go_ret2
              rw [HR8.out]
              exact ⟨_, rfl, World.ownsRow_nil _ _ _ _, I7.out.bl⟩
          · have HR7 := (show Hid (R = ([], f6)) from by have h := HRn.out; rw [HE6.out] at h; rw [if_neg hf6] at h; exact h)
            go_wp2_with fail
            go_quiet (fail)
            go_wp2_with fail
            try rw [Exit.noGoto_ret]
            go_ret2
            rw [HR7.out]
            exact ⟨_, rfl, World.ownsRow_nil _ _ _ _, I6.out.bl.trans ((drewN_below _ _).mono I6.out.bl.size)⟩
    · have HRf := (show Hid (R = ([], (hdS m).2)) from by have h := HRn.out; rw [HC1.out hf] at h; rw [if_neg hf] at h; exact h)
      obtain ⟨ff, hff⟩ : ∃ ff, ff = (hdS m).2 := ⟨_, rfl⟩
      rw [← hff] at hf c2 HRf
      clear hff
      go_wp2_with fail
      go_quiet (fail)
      go_wp2_with fail
      try rw [Exit.noGoto_ret]
      go_ret2
      rw [HRf.out]
      exact ⟨_, rfl, World.ownsRow_nil _ _ _ _, I4.out.bl.trans ((drewN_below _ _).mono I4.out.bl.size)⟩
end Go.Proofs.YtgpjjlkkfddjnaaDoor
