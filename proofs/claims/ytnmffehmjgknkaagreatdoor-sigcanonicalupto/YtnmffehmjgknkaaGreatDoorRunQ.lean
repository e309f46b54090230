/-
  What a canonical query is, and how long it can be.
-/
import Derived.Test.YtnmffehmjgknkaaGreatDoorRunD
import Derived.Test.YtnmffehmjgknkaaGreatDoorChRefUne
import Derived.Test.YtnmffehmjgknkaaGreatDoorChRefEsc
import Derived.Test.YtnmffehmjgknkaaGreatDoorChFo
namespace Go.Proofs.YtnmffehmjgknkaaGreatDoor
open Go.RowKit
open Ch (escL uneV uneOk une escL_len)

theorem une_len : ∀ (l v : List UInt8), une l = some v → v.length ≤ l.length
  | [], v, h => by simp [une] at h; subst h; simp
  | [a], v, h => by
    rw [une] at h
    split at h
    · simp at h
    · simp at h; subst h; simp
  | [a, b], v, h => by
    rw [une] at h
    split at h
    · simp at h
    · obtain ⟨u, hu, rfl⟩ := Option.map_eq_some_iff.mp h
      have := une_len [b] u hu
      simp at *; omega
  | a :: b :: c :: r, v, h => by
    rw [une] at h
    split at h
    · split at h
      · obtain ⟨u, hu, rfl⟩ := Option.map_eq_some_iff.mp h
        have := une_len r u hu
        simp at *; omega
      · simp at h
    · obtain ⟨u, hu, rfl⟩ := Option.map_eq_some_iff.mp h
      have := une_len (b :: c :: r) u hu
      simp at *; omega
termination_by l => l.length
theorem uneV_len (l : List UInt8) : (uneV l).length ≤ l.length := by
  unfold uneV
  cases h : une l with
  | none => simp
  | some v => exact une_len l v h
def escP (h : Hd) : Hd := (escL false (uneV h.1), escL false (uneV h.2))
def okP (h : Hd) : Bool := uneOk h.1 && uneOk h.2
def partP (h : Hd) : List UInt8 := h.1 ++ 61 :: h.2
/-- The canonical query of pairs. -/
def cqL (L : List Hd) : List UInt8 := Lib.join ((srtL (L.map escP)).map partP) [38]
/-- How much of a memory pairs take. -/
def tot (L : List Hd) : Nat := (L.map fun h => h.1.length + h.2.length + 2).sum
theorem tot_cons (h : Hd) (L : List Hd) : tot (h :: L) = h.1.length + h.2.length + 2 + tot L := by simp [tot]
theorem tot_append (L M : List Hd) : tot (L ++ M) = tot L + tot M := by simp [tot]
theorem tot_perm {L M : List Hd} (h : L.Perm M) : tot L = tot M := (h.map _).sum_nat
theorem tot_esc (L : List Hd) : tot (L.map escP) ≤ 3 * tot L := by
  induction L with
  | nil => simp [tot]
  | cons h L ih =>
    rw [List.map_cons, tot_cons, tot_cons]
    have a1 := escL_len false (uneV h.1)
    have a2 := uneV_len h.1
    have b1 := escL_len false (uneV h.2)
    have b2 := uneV_len h.2
    show (escL false (uneV h.1)).length + (escL false (uneV h.2)).length + 2 + _ ≤ _
    omega
theorem tot_len (L : List Hd) : L.length ≤ tot L := by
  induction L with
  | nil => simp
  | cons h L ih => rw [tot_cons, List.length_cons]; omega
theorem tot_mem {L : List Hd} {h : Hd} (hm : h ∈ L) : h.1.length + h.2.length ≤ tot L := by
  induction L with
  | nil => simp at hm
  | cons x L ih =>
    rw [tot_cons]
    rcases List.mem_cons.mp hm with rfl | hm
    · omega
    · have := ih hm; omega
theorem tot_take (L : List Hd) (k : Nat) : tot (L.take k) ≤ tot L := by
  conv => rhs; rw [← List.take_append_drop k L, tot_append]
  omega
theorem tot_filter (p : Hd → Bool) (L : List Hd) : tot (L.filter p) ≤ tot L := by
  induction L with
  | nil => simp
  | cons x L ih =>
    rw [List.filter_cons]
    split
    · rw [tot_cons, tot_cons]; omega
    · rw [tot_cons]; omega
theorem lens_parts (M : List Hd) : Lib.lens (M.map partP) + M.length = tot M := by
  induction M with
  | nil => simp [tot, Lib.lens]
  | cons h M ih =>
    rw [tot_cons, ← ih]
    simp [Lib.lens, partP]
    omega
theorem join_le (L : List (List UInt8)) (c : UInt8) : (Lib.join L [c]).length ≤ Lib.lens L + L.length := by
  match L with
  | [] => simp [Lib.join_nil]
  | x :: r => rw [Lib.join_length]; simp; omega
theorem cqL_len (L : List Hd) : (cqL L).length ≤ 3 * tot L := by
  have h1 := join_le ((srtL (L.map escP)).map partP) 38
  have h2 := lens_parts (srtL (L.map escP))
  rw [List.length_map] at h1
  rw [tot_perm (srtL_perm _)] at h2
  have := tot_esc L
  unfold cqL
  omega
theorem lens_split (c : UInt8) (l : List UInt8) : Lib.lens (splitL c l) + (splitL c l).length = l.length + 1 := by
  induction l with
  | nil => simp [splitL, Lib.lens]
  | cons a r ih =>
    rw [splitL]
    split
    · simp [Lib.lens] at *; omega
    · cases h : splitL c r with
      | nil => exact absurd h (splitL_ne c r)
      | cons x xs => rw [h] at ih; simp [Lib.lens] at *; omega
theorem tot_pairs (P : List (List UInt8)) : tot (P.filterMap pairL) ≤ 2 * (Lib.lens P + P.length) := by
  induction P with
  | nil => simp [tot]
  | cons x P ih =>
    have hc := cut_len x [61]
    rw [List.filterMap_cons]
    unfold pairL at *
    by_cases hx : x = []
    · simp [hx, Lib.lens] at *
      omega
    · simp [hx, Lib.lens] at *
      rw [tot_cons]
      simp
      omega
theorem tot_qry (t : List UInt8) : tot (qryL t) ≤ 2 * (t.length + 1) := by
  unfold qryL
  have h1 := tot_pairs (splitL 38 (Lib.cut t [63]).2.1)
  have h2 := lens_split 38 (Lib.cut t [63]).2.1
  have h3 := cut_len t [63]
  omega
end Go.Proofs.YtnmffehmjgknkaaGreatDoor
/-
  canonicalQuery.
-/
namespace Go.Proofs.YtnmffehmjgknkaaGreatDoor
open Go.RowKit
open Ch (escL uneV uneOk une escL_len)

theorem une34 (x : List UInt8) (w : World) (h : x.length ≤ 1000000000) : Calls Tryz.prog 34 #[.string ⟨x.toArray⟩] w fun e w' => e = .returned (.tuple #[.string ⟨(uneV x).toArray⟩, .bool (uneOk x)]) ∧ Below w.heap.size w w' :=
  Ch.unescape_any ⟨x.toArray⟩ w (by rw [mk_size]; omega)
theorem esc36 (x : List UInt8) (b : Bool) (w : World) (h : x.length ≤ 1000000000) : Calls Tryz.prog 36 #[.string ⟨x.toArray⟩, .bool b] w fun e w' => e = .returned (.string ⟨(escL b x).toArray⟩) ∧ Below w.heap.size w w' :=
  Ch.escape_any ⟨x.toArray⟩ b w (by rw [mk_size]; omega)
theorem join38 (v : Value) (base : Nat) (L : List (List UInt8)) (sep : List UInt8) (w : World) (h : OwnS w base v (toB L)) (hn : L.length ≤ 10000000000) (hl : (Lib.join L sep).length ≤ 140000000000000) :
    Calls Tryz.prog 38 #[v, .string ⟨sep.toArray⟩] w fun e w' => e = .returned (.string ⟨(Lib.join L sep).toArray⟩) ∧ Below w.heap.size w w' := by
  obtain ⟨a, cap, rfl, hS⟩ := h.strs
  rcases hS with hS | ⟨b, off, rfl, hb, hc⟩
  · obtain rfl : L = [] := by simpa [toB] using hS
    have := YtnmffehmjgknkaaGreatDoor.strings_Join_none a cap ⟨sep.toArray⟩ w
    exact this.mono fun e w' ⟨he, hw⟩ => ⟨he, hw ▸ Below.refl _ _⟩
  · have hm : (toB L).map (·.data.toList) = L := by
      unfold toB
      rw [List.map_map]
      exact (List.map_congr_left fun x _ => rfl).trans (List.map_id L)
    have hcap : (toB L).length ≤ cap := by
      rcases h.2 with ⟨hv, hz⟩ | ⟨g, cap', cur, hv, _, _, hnc, _⟩
      · simp at hv
      · simp only [Value.slice.injEq, true_and] at hv
        omega
    have := YtnmffehmjgknkaaGreatDoor.strings_Join b off cap (toB L) ⟨sep.toArray⟩ w (fun j x hj => by
      obtain ⟨hj', rfl⟩ := List.getElem?_eq_some_iff.mp hj
      exact hc j hj') hb (by rw [toB_len]; omega) hcap (by rw [hm]; show (Lib.join L sep).length ≤ _; omega)
    rw [hm] at this
    exact this
theorem cell_one_new2 (w : World) (o : Obj) (v : Value) (t : TypeId) : ∀ j u, [v][j]? = some u → ((w.alloc o).alloc (.cells #[v] t)).cell? ((⟨w.heap.size + 1, 0, none⟩ : Addr).add j) = some u := by
  have hs : (w.alloc o).heap.size = w.heap.size + 1 := by show (w.heap.push _).size = _; simp
  rw [← hs]
  exact cell_one_new (w.alloc o) v t
def cqV (L : List Hd) : List UInt8 := if L.all okP then cqL L else []
theorem hcs_snoc (M : List Hd) (x : Hd) : hcs (M ++ [x]) = hcs M ++ [.string ⟨x.1.toArray⟩, .string ⟨x.2.toArray⟩] := by rw [hcs_app]; rfl
set_option maxRecDepth 20000 in
set_option maxHeartbeats 2000000 in
theorem canonq_any (a : Option Addr) (L : List Hd) (cap : Nat) (w : World) (hH : Hdrs w a L) (ht : tot L ≤ 300000000) :
    Calls Tryz.prog 35 #[.slice a L.length cap] w fun e w' => e = .returned (.tuple #[.string ⟨(cqV L).toArray⟩, .bool (L.all okP)]) ∧ Below w.heap.size w w' := by
  obtain ⟨i0, hi, hz0, hz1, hz2⟩ := info_parts info61
  have HH := (show Hid (Hdrs w a L ∧ tot L ≤ 300000000) from ⟨hH, ht⟩)
  have hll : L.length ≤ 300000000 := by have := tot_len L; omega
  obtain ⟨cv, hcv⟩ : ∃ cv, cv = cqV L := ⟨_, rfl⟩
  obtain ⟨cb, hcb⟩ : ∃ cb, cb = L.all okP := ⟨_, rfl⟩
  have HV := (show Hid (cv = cqV L ∧ cb = L.all okP) from ⟨hcv, hcb⟩)
  rw [← hcv, ← hcb]
  clear hH ht hcv hcb
  go_enter Tryz.func35, Tryz.ntmps35
  go_wp2
  go_loopw [4, 16] (fun v i wr => ∃ k : Nat, k ≤ L.length ∧ i = .int .i64 k ∧ wr.ownsRow w.heap.size 61 2 v k (hcs ((L.take k).map escP)) ∧ Below w.heap.size w wr ∧ (L.take k).all okP = true) (fun _ i _ => L.length - (intOf i).toNat)
  case atStart => exact ⟨0, Nat.zero_le _, rfl, World.ownsRow_nil _ _ _ _, Below.refl _ _, rfl⟩
  case round =>
    obtain ⟨k, hk, rfl, hown, hb, hall⟩ := hrel
    have hsz := hb.size
    have HR := (show Hid (wr.ownsRow w.heap.size 61 2 u4 k (hcs ((L.take k).map escP)) ∧ Below w.heap.size w wr ∧ (L.take k).all okP = true) from ⟨hown, hb, hall⟩)
    by_cases hlt : k < L.length
    · rcases HH.out.1.below hb (Nat.le_refl _) with hnil | ⟨b, off, rfl, hbs, hc⟩
      · rw [hnil] at hlt; simp at hlt
      · obtain ⟨c1, c2⟩ := hc k hlt
        have hxl := tot_mem (List.getElem_mem hlt)
        have ht := HH.out.2
        have HT := (show Hid (L.take (k + 1) = L.take k ++ [L[k]]) from List.take_succ_eq_append_getElem hlt)
        have HAL := (show Hid (∀ (h : okP L[k] = false), L.all okP = false) from fun h => by
          cases hh : L.all okP with
          | false => rfl
          | true => rw [List.all_eq_true.mp hh _ (List.getElem_mem hlt)] at h; simp at h)
        generalize L[k] = x at *
        have hki : (k : Int) < (L.length : Int) := by omega
        have hkk : (0 : Int) ≤ (k : Int) := by omega
        clear hown hb hall hc
        go_upto_region 5 with fail
        obtain ⟨W, hW⟩ : ∃ W, W = wr.alloc (.cells #[.string ⟨x.1.toArray⟩, .string ⟨x.2.toArray⟩] 61) := ⟨_, rfl⟩
        obtain ⟨A, hA⟩ : ∃ A, A = wr.heap.size := ⟨_, rfl⟩
        have nA : W.heap[A]? = some (.cells #[.string ⟨x.1.toArray⟩, .string ⟨x.2.toArray⟩] 61 (0, 0)) := by rw [hW, hA]; exact heap_alloc_new _ _
        have a0 : W.cell? ⟨A, 0, none⟩ = some (.string ⟨x.1.toArray⟩) := by have := cell_blk nA 0; simpa using this
        have a1 : W.cell? ⟨A, 1, none⟩ = some (.string ⟨x.2.toArray⟩) := by have := cell_blk nA 1; simpa using this
        have hbW : Below w.heap.size w W := by rw [hW]; exact HR.out.2.1.alloc hsz _
        have HW := (show Hid (W.ownsRow w.heap.size 61 2 u4 k (hcs ((L.take k).map escP)) ∧ Below w.heap.size w W ∧ A < W.heap.size) from ⟨by rw [hW]; exact World.ownsRow.alloc HR.out.1 _, hbW, blk_lt nA⟩)
        rw [← hW, ← hA]
        clear hW hA nA hbW c1 c2
        have C1 := (show Hid _ from une34 x.1 W (by omega))
        have C2 := (show Hid (∀ W, Calls Tryz.prog 34 #[.string ⟨x.2.toArray⟩] W fun e w' => e = .returned (.tuple #[.string ⟨(uneV x.2).toArray⟩, .bool (uneOk x.2)]) ∧ Below W.heap.size W w') from fun W => une34 x.2 W (by omega))
        have l1 := uneV_len x.1
        have l2 := uneV_len x.2
        have C3 := (show Hid (∀ W, Calls Tryz.prog 36 #[.string ⟨(uneV x.1).toArray⟩, .bool false] W fun e w' => e = .returned (.string ⟨(escP x).1.toArray⟩) ∧ Below W.heap.size W w') from fun W => esc36 (uneV x.1) false W (by omega))
        have C4 := (show Hid (∀ W, Calls Tryz.prog 36 #[.string ⟨(uneV x.2).toArray⟩, .bool false] W fun e w' => e = .returned (.string ⟨(escP x).2.toArray⟩) ∧ Below W.heap.size W w') from fun W => esc36 (uneV x.2) false W (by omega))
        have HOK := (show Hid (okP x = (uneOk x.1 && uneOk x.2)) from rfl)
        have HOO := (show Hid (hcs ((L.take (k + 1)).map escP) = hcs ((L.take k).map escP) ++ [.string ⟨(escP x).1.toArray⟩, .string ⟨(escP x).2.toArray⟩]) from by
          show _ = _
          rw [HT.out, List.map_append, List.map_singleton, hcs_snoc])
        generalize uneOk x.1 = ok1 at *
        generalize uneOk x.2 = ok2 at *
        generalize uneV x.1 = nm at *
        generalize uneV x.2 = vl at *
        generalize (escP x).1 = en at *
        generalize (escP x).2 = ev at *
        clear l1 l2 hxl ht
        go_wp2_with fail
        refine Calls.mono C1.out ?_
        rintro e w1 ⟨rfl, hb1⟩
        have hA1 := HW.out.2.2
        have b1 : w1.cell? ⟨A, 1, none⟩ = some (.string ⟨x.2.toArray⟩) := (hb1.cell (p := ⟨A, 1, none⟩) hA1).trans a1
        have H1 := (show Hid (w1.ownsRow w.heap.size 61 2 u4 k (hcs ((L.take k).map escP)) ∧ Below w.heap.size w w1) from ⟨own_md HW.out.1 (Md.ofBelow (F := fun _ => False) hb1) (fun _ _ h => h), HW.out.2.1.trans (hb1.mono HW.out.2.1.size)⟩)
        clear C1 a0 a1 hb1 hA1
        go_wp2_with fail
        refine Calls.mono (C2.out _) ?_
        rintro e w2 ⟨rfl, hb2⟩
        have H2 := (show Hid (w2.ownsRow w.heap.size 61 2 u4 k (hcs ((L.take k).map escP)) ∧ Below w.heap.size w w2) from ⟨own_md H1.out.1 (Md.ofBelow (F := fun _ => False) hb2) (fun _ _ h => h), H1.out.2.trans (hb2.mono H1.out.2.size)⟩)
        clear C2 b1 hb2
        cases ok1 with
        | false =>
          have HF := (show Hid (cb = false ∧ cv = []) from by
            have h1 := HAL.out (by rw [HOK.out]; rfl)
            refine ⟨HV.out.2.trans h1, HV.out.1.trans ?_⟩
            rw [cqV, h1]; rfl)
          clear HAL HOK HOO
          go_wp2
          go_ret2
          rw [HF.out.1, HF.out.2]
          exact ⟨rfl, H2.out.2⟩
        | true =>
          cases ok2 with
          | false =>
            have HF := (show Hid (cb = false ∧ cv = []) from by
              have h1 := HAL.out (by rw [HOK.out]; rfl)
              refine ⟨HV.out.2.trans h1, HV.out.1.trans ?_⟩
              rw [cqV, h1]; rfl)
            clear HAL HOK HOO
            go_wp2
            go_ret2
            rw [HF.out.1, HF.out.2]
            exact ⟨rfl, H2.out.2⟩
          | true =>
            have HF := (show Hid ((L.take (k + 1)).all okP = true) from by
              show _ = _
              rw [HT.out, List.all_append, HR.out.2.2]
              simp [HOK.out])
            clear HAL HOK
            go_wp2_with fail
            refine Calls.mono (C3.out _) ?_
            rintro e w3 ⟨rfl, hb3⟩
            have H3 := (show Hid (w3.ownsRow w.heap.size 61 2 u4 k (hcs ((L.take k).map escP)) ∧ Below w.heap.size w w3) from ⟨own_md H2.out.1 (Md.ofBelow (F := fun _ => False) hb3) (fun _ _ h => h), H2.out.2.trans (hb3.mono H2.out.2.size)⟩)
            clear C3 hb3
            go_wp2_with fail
            refine Calls.mono (C4.out _) ?_
            rintro e w4 ⟨rfl, hb4⟩
            have H4 := (show Hid (w4.ownsRow w.heap.size 61 2 u4 k (hcs ((L.take k).map escP)) ∧ Below w.heap.size w w4) from ⟨own_md H3.out.1 (Md.ofBelow (F := fun _ => False) hb4) (fun _ _ h => h), H3.out.2.trans (hb4.mono H3.out.2.size)⟩)
            have hsz4 := H4.out.2.size
            clear C4 hb4
            go_wp2_with (at_builtin; refine wpList_append_own _ rfl (.tmp 38) (.tmp 44) 22 rfl w.heap.size 61 i0 (.agg #[.string ⟨#[]⟩, .string ⟨#[]⟩]) 2 32 Tryz.underlying22 hi hz0 hz1 hz2 rfl (by decide) _ k _ rfl (World.ownsRow.alloc H4.out.1 _) ⟨w4.heap.size, 0, none⟩ 1 1 [.string ⟨en.toArray⟩, .string ⟨ev.toArray⟩] rfl rfl (cell_two_new _ _ _ _) (two_one _ _) (by unfold maxLen; omega) (by omega) (by simp; omega) ?_; intro v5 w5 hown5 hgrow5 _)
            have HN := (show Hid (w5.ownsRow w.heap.size 61 2 v5 (k + 1) (hcs ((L.take (k + 1)).map escP)) ∧ Below w.heap.size w w5) from ⟨by rw [HOO.out]; exact hown5, (H4.out.2.alloc hsz4 _).grown hgrow5 (by simp; omega) (fun j hj => (H4.out.1.lt j hj).1)⟩)
            clear hown5 hgrow5
            go_wp2
            go_roundw
            case rel => exact ⟨k + 1, by omega, by go_num, HN.out.1, HN.out.2, HF.out⟩
            case measure => simp [intOf]; omega
    · obtain rfl : k = L.length := by omega
      rw [List.take_length] at hown hall
      obtain ⟨S, hS⟩ : ∃ S, S = srtL (L.map escP) := ⟨_, rfl⟩
      have hSl : S.length = L.length := by rw [hS, srtL_length, List.length_map]
      have HV2 := (show Hid (cb = true ∧ cv = Lib.join (S.map partP) [38]) from ⟨by rw [HV.out.2, hall], by rw [HV.out.1, cqV, if_pos hall, cqL, hS]⟩)
      have HJ := (show Hid ((Lib.join (S.map partP) [38]).length ≤ 900000000) from by
        show _ ≤ _
        have := cqL_len L
        have h2 := HH.out.2
        rw [cqL, ← hS] at this
        omega)
      have HTS := (show Hid (tot S ≤ 900000000) from by
        show _ ≤ _
        have h1 := tot_esc L
        have h2 := HH.out.2
        rw [hS, tot_perm (srtL_perm _)]
        omega)
      have HSo := (show Hid (Calls Tryz.prog 93 #[u4, .func (.func 94) #[] #[]] wr fun e w' => e = .returned (.tuple #[]) ∧ w'.ownsRow w.heap.size 61 2 u4 L.length (hcs S) ∧ Below w.heap.size wr w') from by
        have hlm : (L.map escP).length = L.length := List.length_map _
        have := sort_own (w := wr) (base := w.heap.size) (v := u4) (L := L.map escP) (by rw [hlm]; exact hown) (by omega)
        rw [hlm, ← hS] at this
        exact this)
      have HB := (show Hid (Below w.heap.size w wr) from hb)
      clear hown hb hall HR hS
      go_wp2_with fail
      refine Calls.mono HSo.out ?_
      rintro e w5 ⟨rfl, ho5, hb5⟩
      have hb5' := HB.out.trans hb5
      obtain ⟨a5, cap5, rfl, hH5⟩ := own_hdrs (L := S) (by rw [hSl]; exact ho5)
      have H5 := (show Hid (Hdrs w5 a5 S ∧ Below w.heap.size w w5) from ⟨hH5, hb5'⟩)
      clear HSo ho5 hb5 hb5' hH5
      go_wp2
      obtain ⟨j0, ji, jz0, jz1, jz2⟩ := info_parts info9
      have hsz5 := H5.out.2.size
      go_loopw [11, 51] (fun v i wr => ∃ k : Nat, k ≤ L.length ∧ i = .int .i64 k ∧ OwnS wr w5.heap.size v (toB ((S.take k).map partP)) ∧ Below w5.heap.size w5 wr) (fun _ i _ => L.length - (intOf i).toNat)
      case atStart => exact ⟨0, Nat.zero_le _, rfl, World.ownsRow_nil _ _ _ _, Below.refl _ _⟩
      case round =>
        obtain ⟨k, hk, rfl, hown, hb⟩ := hrel
        have hsz' := hb.size
        have HR := (show Hid (OwnS wr w5.heap.size u11 (toB ((S.take k).map partP)) ∧ Below w5.heap.size w5 wr) from ⟨hown, hb⟩)
        by_cases hlt2 : k < L.length
        · have hkS : k < S.length := by omega
          rcases H5.out.1.below hb (Nat.le_refl _) with hnil | ⟨b, off, rfl, hbs, hc⟩
          · rw [hnil] at hkS; simp at hkS
          · obtain ⟨c1, c2⟩ := hc k hkS
            have HT := (show Hid (toB ((S.take (k + 1)).map partP) = toB ((S.take k).map partP) ++ [⟨(partP S[k]).toArray⟩]) from by
              show _ = _
              rw [List.take_succ_eq_append_getElem hkS, List.map_append, toB, List.map_append]
              rfl)
            have hxl := tot_mem (List.getElem_mem hkS)
            have hts := HTS.out
            have htl : (toB ((S.take k).map partP)).length = k := by rw [toB_len, List.length_map, List.length_take]; omega
            generalize S[k] = x at *
            have HP := (show Hid (((⟨x.1.toArray⟩ : ByteArray) ++ ⟨#[61]⟩ ++ ⟨x.2.toArray⟩) = ⟨(partP x).toArray⟩) from by
              show _ = _
              apply ByteArray.ext
              simp [partP])
            have hki : (k : Int) < (L.length : Int) := by omega
            have hkk : (0 : Int) ≤ (k : Int) := by omega
            have q1 : ¬ 9223372036854775807 < x.1.length + 1 := by omega
            have q2 : ¬ 9223372036854775807 < x.1.length + 1 + x.2.length := by omega
            clear hown hb hc
            go_wp2_with (at_builtin; refine wpList_append_own _ rfl (.tmp 55) (.tmp 62) 26 rfl w5.heap.size 9 j0 (.string ⟨#[]⟩) 1 16 Tryz.underlying26 ji jz0 jz1 jz2 rfl (by decide) _ _ _ rfl (World.ownsRow.alloc (World.ownsRow.alloc HR.out.1 _) _) ⟨wr.heap.size + 1, 0, none⟩ 1 1 [.string ((⟨x.1.toArray⟩ : ByteArray) ++ ⟨#[61]⟩ ++ ⟨x.2.toArray⟩)] rfl rfl (cell_one_new2 _ _ _ _) (one_one _ rfl) (by unfold maxLen; omega) (by omega) (by simp; omega) ?_; intro v1 w1 hown1 hgrow1 _)
            have HN := (show Hid (OwnS w1 w5.heap.size v1 (toB ((S.take (k + 1)).map partP)) ∧ Below w5.heap.size w5 w1) from by
              refine ⟨?_, ((HR.out.2.alloc hsz' _).alloc (by simp; omega) _).grown hgrow1 (by simp; omega) (fun j hj => (World.ownsRow.lt HR.out.1 j hj).1)⟩
              rw [HT.out]
              rw [HP.out] at hown1
              exact ownS_more hown1)
            clear hown1 hgrow1
            go_wp2
            go_roundw
            case rel => exact ⟨k + 1, by omega, by go_num, HN.out.1, HN.out.2⟩
            case measure => simp [intOf]; omega
        · obtain rfl : k = L.length := by omega
          rw [← hSl, List.take_length] at hown
          have HJJ := (show Hid _ from join38 u11 w5.heap.size (S.map partP) [38] wr hown (by rw [List.length_map]; omega) (by have := HJ.out; omega))
          have HB := (show Hid (Below w.heap.size w wr) from H5.out.2.trans (hb.mono hsz5))
          clear hown hb HR
          go_wp2_with fail
          refine Calls.mono HJJ.out ?_
          rintro e w6 ⟨rfl, hb6⟩
          have HB6 := (show Hid (Below w.heap.size w w6) from HB.out.trans (hb6.mono HB.out.size))
          clear HJJ hb6
          go_wp2
          go_ret2
          rw [HV2.out.1, HV2.out.2]
          exact ⟨rfl, HB6.out⟩
end Go.Proofs.YtnmffehmjgknkaaGreatDoor
/-
  canonicalValues.
-/
namespace Go.Proofs.YtnmffehmjgknkaaGreatDoor
open Go.RowKit
open Ch (foldL fold_len)

theorem fold97 (x : List UInt8) (w : World) (h : x.length ≤ 1000000000) : Calls Tryz.prog 97 #[.string ⟨x.toArray⟩] w fun e w' => e = .returned (.string ⟨(foldL x).toArray⟩) ∧ Below w.heap.size w w' :=
  Ch.foldS_any ⟨x.toArray⟩ w (by rw [mk_size]; omega)
/-- The values of a name, folded, with commas between. -/
def cvL (L : List Hd) (n : List UInt8) : List UInt8 := Lib.join ((allL L n).map foldL) [44]
theorem lens_all (L : List Hd) (n : List UInt8) : Lib.lens (allL L n) + (allL L n).length ≤ tot L := by
  unfold allL
  have h := tot_filter (fun h => decide (h.1 = n)) L
  generalize L.filter (fun h => decide (h.1 = n)) = M at *
  have : Lib.lens (M.map (·.2)) + (M.map (·.2)).length ≤ tot M := by
    clear h
    induction M with
    | nil => simp [Lib.lens]
    | cons x M ih => rw [tot_cons]; simp [Lib.lens] at *; omega
  omega
theorem lens_fold (V : List (List UInt8)) : Lib.lens (V.map foldL) ≤ Lib.lens V := by
  induction V with
  | nil => simp
  | cons x V ih => have := fold_len x; simp [Lib.lens] at *; omega
theorem lens_mem {V : List (List UInt8)} {x : List UInt8} (h : x ∈ V) : x.length ≤ Lib.lens V := by
  induction V with
  | nil => simp at h
  | cons y V ih =>
    rcases List.mem_cons.mp h with rfl | h
    · simp [Lib.lens]
    · have := ih h; simp [Lib.lens] at *; omega
theorem cvL_len (L : List Hd) (n : List UInt8) : (cvL L n).length ≤ tot L := by
  have h1 := join_le ((allL L n).map foldL) 44
  have h2 := lens_fold (allL L n)
  have h3 := lens_all L n
  rw [List.length_map] at h1
  unfold cvL
  omega
/-- Some folded, the rest not yet. -/
def mixL (V : List (List UInt8)) (k : Nat) : List (List UInt8) := (V.take k).map foldL ++ V.drop k
theorem mix_len (V : List (List UInt8)) (k : Nat) : (mixL V k).length = V.length := by unfold mixL; simp; omega
theorem mix_at {V : List (List UInt8)} {k : Nat} (h : k < V.length) : (mixL V k)[k]? = some V[k] := by
  unfold mixL
  rw [List.getElem?_append_right (by simp; omega)]
  simp [Nat.min_eq_left (Nat.le_of_lt h)]
theorem mix_set {V : List (List UInt8)} {k : Nat} (h : k < V.length) : (mixL V k).set k (foldL V[k]) = mixL V (k + 1) := by
  unfold mixL
  have hl : ((V.take k).map foldL).length = k := by simp; omega
  rw [List.set_append_right _ _ (by omega), hl, Nat.sub_self, List.drop_eq_getElem_cons h, List.set_cons_zero, List.take_succ_eq_append_getElem h, List.map_append, List.append_assoc]
  rfl
theorem strs_set (M : List (List UInt8)) (k : Nat) (x : List UInt8) : ((toB M).map Value.string).set k (.string ⟨x.toArray⟩) = (toB (M.set k x)).map Value.string := by
  unfold toB
  rw [← List.map_set, ← List.map_set]
theorem blk_lt_own {w : World} {base g n cap : Nat} {e : TypeId} {s : Nat} {xs : List Value} (h : w.ownsRow base e s (.slice (some ⟨g, 0, none⟩) n cap) n xs) : g < w.heap.size := (h.lt g rfl).2
set_option maxRecDepth 20000 in
set_option maxHeartbeats 2000000 in
theorem cvals_any (a : Option Addr) (L : List Hd) (cap : Nat) (n : List UInt8) (w : World) (hH : Hdrs w a L) (ht : tot L ≤ 300000000) :
    Calls Tryz.prog 37 #[.slice a L.length cap, .string ⟨n.toArray⟩] w fun e w' => e = .returned (.string ⟨(cvL L n).toArray⟩) ∧ Below w.heap.size w w' := by
  have hll : L.length ≤ 300000000 := by have := tot_len L; omega
  have HA := (show Hid _ from all_any a L cap n w hH (by omega))
  have HLV := (show Hid (Lib.lens (allL L n) + (allL L n).length ≤ 300000000 ∧ (cvL L n).length ≤ 300000000) from ⟨by have := lens_all L n; omega, by have := cvL_len L n; omega⟩)
  have HCV := (show Hid (cvL L n = Lib.join ((allL L n).map foldL) [44]) from rfl)
  clear hH
  generalize cvL L n = cv at *
  generalize allL L n = V at *
  go_enter Tryz.func37, Tryz.ntmps37
  go_wp2_with fail
  refine Calls.mono HA.out ?_
  rintro e w1 ⟨v, rfl, ho1, hb1⟩
  obtain ⟨a1, cc, rfl, hS1⟩ := ho1.strs
  rw [toB_len] at *
  have H1 := (show Hid (w1.ownsRow w.heap.size 9 1 (.slice a1 V.length cc) V.length ((toB (mixL V 0)).map Value.string) ∧ Below w.heap.size w w1) from by
    have e0 : mixL V 0 = V := by simp [mixL]
    rw [e0]
    have := ho1
    unfold OwnS at this
    rw [toB_len] at this
    exact ⟨this, hb1⟩)
  have hvl : V.length ≤ 300000000 := by have := HLV.out.1; omega
  clear HA ho1 hS1 hb1
  go_wp2
  go_loopw [13] (fun i wr => ∃ k : Nat, k ≤ V.length ∧ i = .int .i64 k ∧ wr.ownsRow w.heap.size 9 1 (.slice a1 V.length cc) V.length ((toB (mixL V k)).map Value.string) ∧ Below w.heap.size w wr) (fun i _ => V.length - (intOf i).toNat)
  case atStart => exact ⟨0, Nat.zero_le _, rfl, H1.out.1, H1.out.2⟩
  case round =>
    obtain ⟨k, hk, rfl, hown, hb⟩ := hrel
    have hsz := hb.size
    by_cases hlt : k < V.length
    · rcases hown.2 with ⟨hv, hn⟩ | ⟨g, cap', cur, hv, hg, hh, hnc, hcm, hcs', htk⟩
      · omega
      · simp only [Value.slice.injEq, true_and] at hv
        obtain ⟨rfl, rfl⟩ := hv
        have c1 := hown.cellAt k (by omega)
        rw [List.getElem?_map, toB, List.getElem?_map, mix_at hlt] at c1
        have hxl := lens_mem (List.getElem_mem hlt)
        have hvv := HLV.out.1
        have HS := (show Hid (((toB (mixL V k)).map Value.string).set k (.string ⟨(foldL V[k]).toArray⟩) = (toB (mixL V (k + 1))).map Value.string) from by
          show _ = _
          rw [strs_set, mix_set hlt])
        generalize V[k] = x at *
        have HO := (show Hid (wr.ownsRow w.heap.size 9 1 (.slice (some ⟨g, 0, none⟩) V.length cc) V.length ((toB (mixL V k)).map Value.string) ∧ Below w.heap.size w wr) from ⟨hown, hb⟩)
        have HF := (show Hid _ from fold97 x wr (by omega))
        have hki : (k : Int) < (V.length : Int) := by omega
        have hkk : (0 : Int) ≤ (k : Int) := by omega
        clear hown hb hh hcs' htk
        go_wp2_with fail
        refine Calls.mono HF.out ?_
        rintro e w3 ⟨rfl, hb3⟩
        have ho3 := own_md HO.out.1 (Md.ofBelow (F := fun _ => False) hb3) (fun _ _ h => h)
        have f3 := ho3.frozenAt k
        have d1 := (hb3.cell (p := ⟨g, k, none⟩) (blk_lt_own HO.out.1)).trans c1
        have H3 := (show Hid (w3.ownsRow w.heap.size 9 1 (.slice (some ⟨g, 0, none⟩) V.length cc) V.length ((toB (mixL V k)).map Value.string) ∧ Below w.heap.size w w3) from ⟨ho3, HO.out.2.trans (hb3.mono hsz)⟩)
        clear hb3 ho3 c1 HF
        go_wp2
        go_roundw
        case rel =>
          refine ⟨k + 1, by omega, by go_num, ?_, H3.out.2.setCell hg _⟩
          rw [← HS.out]
          exact (H3.out.1.stored k _).1
        case measure => simp [intOf]; omega
    · obtain rfl : k = V.length := by omega
      have e1 : mixL V V.length = V.map foldL := by simp [mixL]
      rw [e1] at hown
      have HJ := (show Hid _ from join38 (.slice a1 V.length cc) w.heap.size (V.map foldL) [44] wr (by
        unfold OwnS
        rw [toB_len, List.length_map]
        exact hown) (by rw [List.length_map]; omega) (by rw [← HCV.out]; have := HLV.out.2; omega))
      rw [← HCV.out] at HJ
      have HB := (show Hid (Below w.heap.size w wr) from hb)
      clear hown hb
      go_wp2_with fail
      refine Calls.mono HJ.out ?_
      rintro e w6 ⟨rfl, hb6⟩
      have HB6 := (show Hid (Below w.heap.size w w6) from HB.out.trans (hb6.mono HB.out.size))
      clear HJ hb6
      go_wp2
      go_ret
      exact ⟨rfl, HB6.out⟩
end Go.Proofs.YtnmffehmjgknkaaGreatDoor
/-
  What is signed: the text.
-/
namespace Go.Proofs.YtnmffehmjgknkaaGreatDoor
open Go.RowKit
open Ch (foldL fold_len escL uneV uneOk escL_len)

theorem joinS38 (a : Option Addr) (cap : Nat) (L : List (List UInt8)) (sep : List UInt8) (w : World) (h : Strs w a (toB L)) (hcap : L.length ≤ cap) (hn : L.length ≤ 10000000000) (hl : (Lib.join L sep).length ≤ 140000000000000) :
    Calls Tryz.prog 38 #[.slice a L.length cap, .string ⟨sep.toArray⟩] w fun e w' => e = .returned (.string ⟨(Lib.join L sep).toArray⟩) ∧ Below w.heap.size w w' := by
  rcases h with hS | ⟨b, off, rfl, hb, hc⟩
  · obtain rfl : L = [] := by simpa [toB] using hS
    have := YtnmffehmjgknkaaGreatDoor.strings_Join_none a cap ⟨sep.toArray⟩ w
    exact this.mono fun e w' ⟨he, hw⟩ => ⟨he, hw ▸ Below.refl _ _⟩
  · have hm : (toB L).map (·.data.toList) = L := by
      unfold toB
      rw [List.map_map]
      exact (List.map_congr_left fun x _ => rfl).trans (List.map_id L)
    have := YtnmffehmjgknkaaGreatDoor.strings_Join b off cap (toB L) ⟨sep.toArray⟩ w (fun j x hj => by
      obtain ⟨hj', rfl⟩ := List.getElem?_eq_some_iff.mp hj
      exact hc j hj') hb (by rw [toB_len]; omega) (by rw [toB_len]; exact hcap) (by rw [hm]; show (Lib.join L sep).length ≤ _; omega)
    rw [hm, toB_len] at this
    exact this
/-- The pairs that are signed. -/
def prL (tg : List UInt8) (pre : Bool) : List Hd := if pre then delL (qryL tg) else qryL tg
def cnOk (tg : List UInt8) (pre : Bool) : Bool := uneOk (Lib.cut tg [63]).1 && (prL tg pre).all okP
def lineL (hs : List Hd) (n : List UInt8) : List UInt8 := n ++ 58 :: cvL hs n
def cn0 (m tg : List UInt8) (pre : Bool) : List (List UInt8) := [m, escL true (uneV (Lib.cut tg [63]).1), cqL (prL tg pre)]
def cnT (m tg : List UInt8) (hs : List Hd) (sg : List (List UInt8)) (pl : List UInt8) (pre : Bool) : List UInt8 := Lib.join (cn0 m tg pre ++ sg.map (lineL hs) ++ [[], Lib.join sg [59], pl]) [10]
def cnV (m tg : List UInt8) (hs : List Hd) (sg : List (List UInt8)) (pl : List UInt8) (pre : Bool) : List UInt8 := if cnOk tg pre then cnT m tg hs sg pl pre else []
def cnE (tg : List UInt8) (pre : Bool) : Int := if cnOk tg pre then 0 else 331
theorem tot_pr (tg : List UInt8) (pre : Bool) : tot (prL tg pre) ≤ 2 * (tg.length + 1) := by
  have h := tot_qry tg
  unfold prL
  split
  · have := tot_filter notSig (qryL tg); unfold delL; omega
  · exact h
theorem lens_app (A B : List (List UInt8)) : Lib.lens (A ++ B) = Lib.lens A + Lib.lens B := by simp [Lib.lens]
theorem lens_lines (hs : List Hd) (sg : List (List UInt8)) (T : Nat) (hT : tot hs ≤ T) : Lib.lens (sg.map (lineL hs)) ≤ Lib.lens sg + sg.length * (T + 1) := by
  induction sg with
  | nil => simp [Lib.lens]
  | cons n sg ih =>
    have := cvL_len hs n
    have e : (lineL hs n).length = n.length + 1 + (cvL hs n).length := by simp [lineL]; omega
    have e2 : (n :: sg).length * (T + 1) = sg.length * (T + 1) + (T + 1) := by rw [List.length_cons, Nat.add_mul]; omega
    have e3 : ∀ (x : List UInt8) (r : List (List UInt8)), Lib.lens (x :: r) = x.length + Lib.lens r := fun x r => by simp [Lib.lens]
    rw [List.map_cons, e3, e3, e2, e]
    omega
/-- What comes in is not too great. -/
structure CnB (m tg : List UInt8) (hs : List Hd) (sg : List (List UInt8)) (pl : List UInt8) : Prop where
  m : m.length ≤ 4194304
  tg : tg.length ≤ 4194304
  hs : tot hs ≤ 4194304
  sg : Lib.lens sg + sg.length ≤ 4194304
  pl : pl.length ≤ 4194304
theorem CnB.cn0 {m tg : List UInt8} {hs : List Hd} {sg : List (List UInt8)} {pl : List UInt8} (h : CnB m tg hs sg pl) (pre : Bool) : Lib.lens (cn0 m tg pre) ≤ 60000000 := by
  have h1 := h.m
  have h2 := h.tg
  have h3 := cqL_len (prL tg pre)
  have h4 := tot_pr tg pre
  have h5 := escL_len true (uneV (Lib.cut tg [63]).1)
  have h6 := uneV_len (Lib.cut tg [63]).1
  have h7 := (cut_len tg [63]).1
  simp [YtnmffehmjgknkaaGreatDoor.cn0, Lib.lens]
  omega
theorem CnB.cnT {m tg : List UInt8} {hs : List Hd} {sg : List (List UInt8)} {pl : List UInt8} (h : CnB m tg hs sg pl) (pre : Bool) : (cnT m tg hs sg pl pre).length ≤ 20000000000000 ∧ (Lib.join sg [59]).length ≤ 4194304 := by
  have h0 := h.cn0 pre
  have h1 := h.sg
  have h2 := lens_lines hs sg 4194304 h.hs
  have h3 := join_le sg 59
  have h4 := h.pl
  have h5 := join_le (YtnmffehmjgknkaaGreatDoor.cn0 m tg pre ++ sg.map (lineL hs) ++ [[], Lib.join sg [59], pl]) 10
  have h6 : sg.length * (4194304 + 1) ≤ 4194304 * (4194304 + 1) := Nat.mul_le_mul_right _ (by omega)
  rw [lens_app, lens_app] at h5
  simp [YtnmffehmjgknkaaGreatDoor.cn0, Lib.lens] at h0 h5 h1 h2 h3
  refine ⟨?_, by simp at *; omega⟩
  unfold YtnmffehmjgknkaaGreatDoor.cnT
  simp [YtnmffehmjgknkaaGreatDoor.cn0] at *
  omega
end Go.Proofs.YtnmffehmjgknkaaGreatDoor
