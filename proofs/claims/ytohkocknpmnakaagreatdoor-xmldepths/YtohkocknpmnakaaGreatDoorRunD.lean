/-
  Deep: how deep an element is.
-/
import Derived.Test.YtohkocknpmnakaaGreatDoorTo
import Derived.Test.YtohkocknpmnakaaGreatDoorRunW
import Derived.Test.YtohkocknpmnakaaGreatDoorAwk
namespace Go.Proofs.YtohkocknpmnakaaGreatDoor
open Go.RowKit

/-- Elements in memory, as far down as told. -/
def Inp : Nat → World → Option Addr → List Nod → Prop
  | 0, _, _, _ => True
  | h + 1, w, a, ks => ks = [] ∨ ∃ b off, a = some ⟨b, off, none⟩ ∧ b < w.heap.size ∧ ∀ j (hj : j < ks.length), ∃ a' c',
      w.cell? ⟨b, off + j * 3, none⟩ = some (.string ⟨(ks[j]).nm.toArray⟩) ∧ w.cell? ⟨b, off + j * 3 + 1, none⟩ = some (.string ⟨(ks[j]).tx.toArray⟩) ∧ w.cell? ⟨b, off + j * 3 + 2, none⟩ = some (.slice a' (ks[j]).ks.length c') ∧ Inp h w a' (ks[j]).ks
theorem Inp.below {w w' : World} (hb : Below w.heap.size w w') : ∀ {h : Nat} {a : Option Addr} {ks : List Nod}, Inp h w a ks → Inp h w' a ks
  | 0, _, _, _ => trivial
  | h + 1, a, ks, hi => by
    rcases hi with hi | ⟨b, off, h1, h3, h4⟩
    · exact .inl hi
    · refine .inr ⟨b, off, h1, Nat.lt_of_lt_of_le h3 hb.size, fun j hj => ?_⟩
      obtain ⟨a', c', k1, k2, k3, k4⟩ := h4 j hj
      have hc : ∀ o, w'.cell? ⟨b, o, none⟩ = w.cell? ⟨b, o, none⟩ := fun o => hb.cell (p := ⟨b, o, none⟩) h3
      exact ⟨a', c', (hc _).trans k1, (hc _).trans k2, (hc _).trans k3, Inp.below hb k4⟩
theorem Inm.inp {w : World} : ∀ {h m : Nat} {a : Option Addr} {ks : List Nod}, m ≤ h → Inm h w a ks → Inp m w a ks
  | _, 0, _, _, _, _ => trivial
  | 0, m + 1, _, _, hm, _ => by omega
  | h + 1, m + 1, a, ks, hm, hi => by
    rcases hi with hi | ⟨b, off, h1, -, h3, h4⟩
    · exact .inl hi
    · refine .inr ⟨b, off, h1, h3, fun j hj => ?_⟩
      obtain ⟨a', c', k1, k2, k3, k4⟩ := h4 j hj
      exact ⟨a', c', k1, k2, k3, Inm.inp (by omega) k4⟩
/-- Rows of elements that are not too long, as far down as told. -/
def Lng (N : Nat) : Nat → List Nod → Prop
  | 0, _ => True
  | h + 1, ks => ks.length ≤ N ∧ ∀ t ∈ ks, Lng N h t.ks
/-- How deep, up to a bound. -/
def depF : Nat → List Nod → Nat
  | 0, _ => 1
  | m + 1, ks => (ks.map fun t => depF m t.ks).foldl max 0 + 1
def mxF (m : Nat) (ks : List Nod) : Nat := (ks.map fun t => depF m t.ks).foldl max 0
theorem mxF_snoc (m : Nat) (ks : List Nod) (t : Nod) : mxF m (ks ++ [t]) = max (mxF m ks) (depF m t.ks) := by
  simp [mxF]
theorem dep_le : ∀ (m : Nat) (ks : List Nod), depF m ks ≤ m + 1
  | 0, _ => Nat.le_refl _
  | m + 1, ks => by
    have h : ∀ (l : List Nat) (x : Nat), (∀ y ∈ l, y ≤ m + 1) → x ≤ m + 1 → l.foldl max x ≤ m + 1 := by
      intro l
      induction l with
      | nil => intro x _ hx; exact hx
      | cons y l ih =>
        intro x hl hx
        exact ih _ (fun z hz => hl z (List.mem_cons_of_mem _ hz)) (by have := hl y (List.mem_cons_self ..); omega)
    have := h (ks.map fun t => depF m t.ks) 0 (by
      intro y hy
      obtain ⟨t, -, rfl⟩ := List.mem_map.1 hy
      exact dep_le m t.ks) (Nat.zero_le _)
    show _ + 1 ≤ _
    omega
theorem mx_le (m : Nat) (ks : List Nod) : mxF m ks ≤ m + 1 := by
  have := dep_le (m + 1) ks
  have e : depF (m + 1) ks = mxF m ks + 1 := rfl
  omega

set_option maxRecDepth 20000 in
set_option maxHeartbeats 1600000 in
theorem deep_zero (t : Nod) (a : Option Addr) (c : Nat) (W : World) :
    Calls Tryz.prog 14 #[ndV t a c, .int .i64 0] W fun e w' => e = .returned (.int .i64 1) ∧ Below W.heap.size W w' := by
  unfold ndV
  generalize (⟨t.nm.toArray⟩ : ByteArray) = n
  generalize (⟨t.tx.toArray⟩ : ByteArray) = x
  obtain ⟨w0, hw0⟩ : ∃ w0, w0 = W.alloc (.cells #[.string n, .string x, .slice a t.ks.length c] 24) := ⟨_, rfl⟩
  have H0 : Hid (Below W.heap.size W w0) := by rw [hw0]; exact (Below.refl _ _).alloc (Nat.le_refl _) _
  generalize t.ks.length = N at *
  go_enter Tryz.func14, Tryz.ntmps14
  go_wp2
  refine wp_loop_rounds 1 ?_
  rw [rounds_succ]
  go_wp2
  all_goals
    go_ret
    rw [← hw0]
    exact ⟨rfl, H0.out⟩

set_option maxRecDepth 20000 in
set_option maxHeartbeats 3200000 in
theorem deep_step (m : Nat) (hm : m < 64) (t : Nod) (a : Option Addr) (c : Nat) (W : World) (hi : Inp (m + 1) W a t.ks) (hlen : t.ks.length ≤ 2513169434916)
    (HT : ∀ t' ∈ t.ks, ∀ a c W', Inp m W' a t'.ks → Calls Tryz.prog 14 #[ndV t' a c, .int .i64 (m : Int)] W' fun e w' => e = .returned (.int .i64 (depF m t'.ks : Int)) ∧ Below W'.heap.size W' w') :
    Calls Tryz.prog 14 #[ndV t a c, .int .i64 ((m : Int) + 1)] W fun e w' => e = .returned (.int .i64 (depF (m + 1) t.ks : Int)) ∧ Below W.heap.size W w' := by
  obtain ⟨ks, hks⟩ : ∃ ks, ks = t.ks := ⟨_, rfl⟩
  obtain ⟨n, hn⟩ : ∃ n : ByteArray, n = ⟨t.nm.toArray⟩ := ⟨_, rfl⟩
  obtain ⟨x, hx⟩ : ∃ x : ByteArray, x = ⟨t.tx.toArray⟩ := ⟨_, rfl⟩
  unfold ndV
  rw [← hks] at hi hlen HT ⊢
  rw [← hn, ← hx]
  have HI : Hid (Inp (m + 1) W a ks) := hi
  have HTQ := (show Hid (∀ j (hj : j < ks.length), ∀ a c W', Inp m W' a (ks[j]).ks → Calls Tryz.prog 14 #[ndV (ks[j]) a c, .int .i64 (m : Int)] W' fun e w' => e = .returned (.int .i64 (depF m (ks[j]).ks : Int)) ∧ Below W'.heap.size W' w') from fun j hj => HT _ (List.getElem_mem hj))
  obtain ⟨w0, hw0⟩ : ∃ w0, w0 = W.alloc (.cells #[.string n, .string x, .slice a ks.length c] 24) := ⟨_, rfl⟩
  obtain ⟨p, hp⟩ : ∃ p, p = W.heap.size := ⟨_, rfl⟩
  have H0 : Hid (w0.heap[p]? = some (.cells #[.string n, .string x, .slice a ks.length c] 24 (0, 0)) ∧ Below W.heap.size W w0) := by
    rw [hw0, hp]
    exact ⟨heap_alloc_new _ _, (Below.refl _ _).alloc (Nat.le_refl _) _⟩
  clear hi HT hks hn hx
  go_enter Tryz.func14, Tryz.ntmps14
  go_wp2
  rw [← hw0, ← hp]
  clear hw0 hp
  go_loopw [5, 6] (fun d i wx => ∃ k : Nat, k ≤ ks.length ∧ i = .int .i64 k ∧ d = .int .i64 (mxF m (ks.take k) : Int) ∧ Below w0.heap.size w0 wx) (fun _ i _ => ks.length - (intOf i).toNat)
  case atStart => exact ⟨0, Nat.zero_le _, rfl, rfl, Below.refl _ _⟩
  case round =>
    obtain ⟨k, hkl, rfl, rfl, hbl⟩ := hrel
    have hb0 := (hbl.block p (blk_lt H0.out.1)).trans H0.out.1
    have c2 : wr.cell? ⟨p, 2, none⟩ = some (.slice a ks.length c) := cell_blk hb0 2
    have hB : Below W.heap.size W wr := H0.out.2.trans (hbl.mono H0.out.2.size)
    have HB : Hid (Below w0.heap.size w0 wr ∧ Below W.heap.size W wr) := ⟨hbl, hB⟩
    have hmx := mx_le m (ks.take k)
    have hmp : (0 : Int) < (m : Int) + 1 := by omega
    clear hb0 hbl
    by_cases hlt : k < ks.length
    · rcases HI.out with hnil | ⟨b, off, rfl, hbW, hcs⟩
      · rw [hnil] at hlt
        exact absurd hlt (by simp)
      obtain ⟨ak, ck, l0, l1, l2, hkd⟩ := hcs k hlt
      have e0 := (hB.cell (p := ⟨b, off + k * 3, none⟩) hbW).trans l0
      have e1 := (hB.cell (p := ⟨b, off + k * 3 + 1, none⟩) hbW).trans l1
      have e2 := (hB.cell (p := ⟨b, off + k * 3 + 2, none⟩) hbW).trans l2
      have KT := HTQ.out k hlt ak ck wr (hkd.below hB)
      have HS : Hid (mxF m (ks.take (k + 1)) = max (mxF m (ks.take k)) (depF m (ks[k]).ks)) := by
        show _ = _
        rw [List.take_succ_eq_append_getElem hlt, mxF_snoc]
      have hdl := dep_le m (ks[k]).ks
      obtain ⟨t', ht'⟩ : ∃ t', t' = ks[k] := ⟨_, rfl⟩
      rw [← ht'] at e0 e1 e2 KT HS hdl
      unfold ndV at KT
      generalize depF m t'.ks = D at *
      generalize mxF m (ks.take k) = M at *
      have hkI : (k : Int) < (ks.length : Int) := by omega
      have hsub : (m : Int) + 1 - 1 = (m : Int) := by omega
      clear hkd l0 l1 l2 ht' hB
      go_wp2_with fail
      refine KT.mono ?_
      rintro e w1 ⟨rfl, hb1⟩
      have H9 : Hid (Below w0.heap.size w0 w1) := HB.out.1.trans (hb1.mono HB.out.1.size)
      clear hb1 KT e0 e1 e2 c2
      go_wp2
      exact ⟨⟨k + 1, by omega, by go_num, by rw [HS.out]; congr 1; omega, H9.out⟩, by simp only [intOf]; omega⟩
    · obtain rfl : k = ks.length := by omega
      rw [List.take_length] at hmx ⊢
      have HD : Hid (depF (m + 1) ks = mxF m ks + 1) := rfl
      generalize mxF m ks = M at *
      clear hB
      go_wp2
      go_ret
      exact ⟨ret_int (by rw [HD.out]; omega), HB.out.2⟩

/-- Deep, of every element in memory. -/
theorem deep_all : ∀ (m : Nat), m ≤ 64 → ∀ (t : Nod) (a : Option Addr) (c : Nat) (W : World), Inp m W a t.ks → Lng 2513169434916 m t.ks → Calls Tryz.prog 14 #[ndV t a c, .int .i64 (m : Int)] W fun e w' => e = .returned (.int .i64 (depF m t.ks : Int)) ∧ Below W.heap.size W w'
  | 0, _, t, a, c, W, _, _ => deep_zero t a c W
  | m + 1, hm, t, a, c, W, hi, hl => deep_step m (by omega) t a c W hi hl.1 (fun t' ht a c W' h' => deep_all m (by omega) t' a c W' h' (hl.2 t' ht))
end Go.Proofs.YtohkocknpmnakaaGreatDoor
/-
  Elements within each other: the plain mathematics of XmlDepths.
-/
namespace Go.Proofs.YtohkocknpmnakaaGreatDoor
open Go.RowKit

/-- Elements within each other: so many around the innermost. -/
def cN (x : List UInt8) : Nat → Nod
  | 0 => .nd [97] x []
  | k + 1 => .nd [97] [] [cN x k]
def opn : Nat → List UInt8
  | 0 => []
  | k + 1 => opn k ++ [60, 97, 62]
def cls : Nat → List UInt8
  | 0 => []
  | k + 1 => cls k ++ [60, 47, 97, 62]
theorem opn_len (k : Nat) : (opn k).length = 3 * k := by
  induction k with
  | zero => rfl
  | succ k ih => simp [opn, ih]; omega
theorem cls_len (k : Nat) : (cls k).length = 4 * k := by
  induction k with
  | zero => rfl
  | succ k ih => simp [cls, ih]; omega
theorem opn_front (k : Nat) : opn (k + 1) = [60, 97, 62] ++ opn k := by
  induction k with
  | zero => rfl
  | succ k ih =>
    show opn (k + 1) ++ [60, 97, 62] = [60, 97, 62] ++ (opn k ++ [60, 97, 62])
    rw [ih, List.append_assoc]
theorem el_cN (x : List UInt8) : ∀ k, elL [] (cN x k) = opn (k + 1) ++ escX x ++ cls (k + 1)
  | 0 => by
    rw [elL_eq]
    simp [cN, Nod.nm, Nod.tx, Nod.ks, els_nil, opn, cls]
  | k + 1 => by
    have ih := el_cN x k
    rw [elL_eq]
    simp only [cN, Nod.nm, Nod.tx, Nod.ks, els_cons, els_nil, ih]
    rw [opn_front (k + 1)]
    have : escX [] = [] := rfl
    rw [this, show cls (k + 1 + 1) = cls (k + 1) ++ [60, 47, 97, 62] from rfl]
    simp
theorem okK_cN (x : List UInt8) : ∀ (d k : Nat), okK d [cN x k] = (decide (k < d) && Lg x)
  | 0, k => by
    simp [okK]
  | d + 1, 0 => by
    have h1 : nameB [97] = true := by decide
    simp only [okK, List.all_cons, List.all_nil, Bool.and_true, cN, sndB, Nod.nm, Nod.tx, Nod.ks, okK_nil, h1, List.isEmpty_nil, Bool.or_true, Bool.true_and]
    simp [Lg]
  | d + 1, k + 1 => by
    have ih := okK_cN x d k
    have h1 : nameB [97] = true := by decide
    have h2 : (cntP xmlP []).isSome = true := rfl
    simp only [okK, List.all_cons, List.all_nil, Bool.and_true, cN, sndB, Nod.nm, Nod.tx, Nod.ks, h1, h2, List.isEmpty_nil, Bool.true_or, Bool.true_and, ih]
    simp
theorem dep_cN (x : List UInt8) : ∀ (m k : Nat), k ≤ m → depF m (cN x k).ks = k + 1
  | m, 0, _ => by
    cases m with
    | zero => rfl
    | succ m => rfl
  | 0, k + 1, h => by omega
  | m + 1, k + 1, h => by
    have ih := dep_cN x m k (by omega)
    show (List.map (fun t => depF m t.ks) [cN x k]).foldl max 0 + 1 = _
    simp only [List.map_cons, List.map_nil, ih]
    simp
/-- Too deep. -/
theorem deep_none (x : List UInt8) : ∀ (k m : Nat) (y : List UInt8), k ≤ m → elemF une k (elL [] (cN x m) ++ y) = none
  | 0, m, y, _ => rfl
  | k + 1, 0, y, h => by omega
  | k + 1, m + 1, y, h => by
    have ih := deep_none x k m
    rw [el_head]
    have hb : ∀ z, ∃ q, elL [] (cN x m) ++ z = 60 :: 97 :: q := by
      intro z
      rw [el_head]
      cases m <;> exact ⟨_, rfl⟩
    simp only [cN, Nod.nm, Nod.tx, Nod.ks]
    obtain ⟨c, z, he, hc, ha⟩ := att_ats false (escX [] ++ (elsL [cN x m] ++ 60 :: 47 :: ([97] ++ ([] ++ 62 :: y))))
    have hat : attL false = [] := rfl
    rw [hat] at he
    rw [he, elem_at k (n := [97]) (by decide) (by decide) hc ha]
    have he0 : escX [] = [] := rfl
    rw [he0, List.nil_append, els_cons, els_nil, List.append_nil]
    have hk : kidsF (elemF une k) ((elL [] (cN x m) ++ 60 :: 47 :: ([97] ++ ([] ++ 62 :: y))).length + 1) (elL [] (cN x m) ++ 60 :: 47 :: ([97] ++ ([] ++ 62 :: y))) = (none : Option (List Nod)).map fun ks => (ks, 60 :: 47 :: ([97] ++ ([] ++ 62 :: y))) := by
      obtain ⟨q, hq⟩ := hb (60 :: 47 :: ([97] ++ ([] ++ 62 :: y)))
      have hi := ih (60 :: 47 :: ([97] ++ ([] ++ 62 :: y))) (by omega)
      rw [hq] at hi ⊢
      have := kids_cons (elemF une k) (60 :: 97 :: q).length (ws := []) (c := 97) (y := q) rfl (by decide)
      rw [List.nil_append] at this
      rw [this, hi]
      rfl
    have hkb : kB (skp (elL [] (cN x m) ++ 60 :: 47 :: ([97] ++ ([] ++ 62 :: y)))) = true := by
      obtain ⟨q, hq⟩ := hb (60 :: 47 :: ([97] ++ ([] ++ 62 :: y)))
      rw [hq]
      exact kB_white (w := []) rfl (by decide)
    rw [rest_kids k hkb (ws := []) rfl hk]
    rfl
/-- How the law's own text is read. -/
theorem prs_cN (k : Nat) : prsL (opn (k + 1) ++ cls (k + 1)) = if k < 16 then some (cN [] k) else none := by
  have e : opn (k + 1) ++ cls (k + 1) = elL [] (cN [] k) := by
    rw [el_cN]
    have : escX [] = [] := rfl
    rw [this, List.append_nil]
  rw [e]
  obtain ⟨q, hq⟩ : ∃ q, elL [] (cN [] k) = 60 :: 97 :: q := by
    have := el_head [] (cN [] k) []
    rw [List.append_nil] at this
    rw [this]
    cases k <;> exact ⟨_, rfl⟩
  have hdecl : declL (elL [] (cN [] k)) = some (elL [] (cN [] k)) := by
    rw [hq]
    have he : eat [60, 63, 120, 109, 108] (60 :: 97 :: q) = none := by
      unfold eat
      rw [if_neg]
      rw [hasPrefix_iff]
      rintro ⟨x, hx⟩
      injection hx with _ hx
      injection hx with hx _
      cases hx
    unfold declL
    rw [he]
  have hskp : skp (elL [] (cN [] k)) = elL [] (cN [] k) := by
    rw [hq]
    exact skp_stop (by decide)
  by_cases hk : k < 16
  · have hok : okK 16 [cN [] k] = true := by
      rw [okK_cN, decide_eq_true hk]
      rfl
    have hlg : (cntP xmlP (elL [] (cN [] k))).isSome = true := by
      have := lg_el 16 [] (cN [] k) [] rfl hok
      rw [List.append_nil] at this
      show Lg _ = true
      rw [this]
      rfl
    have hel := elem_back 16 false (cN [] k) [] hok
    have hat : attL false = [] := rfl
    rw [hat, List.append_nil] at hel
    rw [if_pos hk]
    unfold prsL
    rw [if_pos hlg]
    unfold docF
    rw [hdecl, Option.bind_some, hskp, hel, Option.bind_some]
    rfl
  · have hel := deep_none [] 16 k [] (by omega)
    rw [List.append_nil] at hel
    rw [if_neg hk]
    unfold prsL
    split
    · unfold docF
      rw [hdecl, Option.bind_some, hskp, hel]
      rfl
    · rfl
theorem doc_cN_len (x : List UInt8) (k : Nat) (hx : x.length ≤ 100) (hk : k ≤ 40) : (docL false (cN x k)).length ≤ 65536 := by
  have h := escX_len x
  unfold docL
  have hat : attL false = [] := rfl
  rw [hat, el_cN, List.length_append, List.length_append, List.length_append, opn_len, cls_len]
  have : headL.length = 39 := rfl
  omega
end Go.Proofs.YtohkocknpmnakaaGreatDoor
/-
  The law XmlTexts.
-/
namespace Go.Proofs.YtohkocknpmnakaaGreatDoor
open Go.RowKit

theorem Mx.bel {w w' : World} (h : Mx w) (hb : Below w.heap.size w w') : Mx w' := h.md (Md.ofBelow (F := fun _ => False) hb) (fun h => h)
theorem Er.bel {w w' : World} (h : Er w) (hb : Below w.heap.size w w') : Er w' := h.md (Md.ofBelow (F := fun _ => False) hb) (fun h => h)

set_option maxRecDepth 20000 in
set_option maxHeartbeats 3200000 in
theorem xmlTexts_walk (m : List UInt8) (w : World) (hl : m.length ≤ 1048576) (hm : Mx w) (he : Er w) :
    Calls Tryz.prog 5 #[.string ⟨m.toArray⟩] w fun e w' => e = .returned (.bool true) ∧ Below w.heap.size w w' := by
  have K1 := unescape_any m w (by omega) hm he
  have K2 := (show Hid (∀ W, Calls Tryz.prog 21 #[.string ⟨m.toArray⟩] W fun e w' => e = .returned (entV (une m)) ∧ Below W.heap.size W w') from fun W => unesc_ref m W (by omega))
  have K3 := (show Hid (∀ W, Calls Tryz.prog 22 #[.string ⟨m.toArray⟩] W fun e w' => e = .returned (.bool (nameB m)) ∧ Below W.heap.size W w') from fun W => name_code m W (by unfold maxLen; omega))
  have K4 := (show Hid (∀ W, Calls Tryz.prog 23 #[.string ⟨m.toArray⟩] W fun e w' => e = .returned (.bool (nameB m)) ∧ Below W.heap.size W w') from fun W => (name_ref m W (by unfold maxLen; omega)).mono fun e w' h => ⟨h.1, by rw [← h.2]; exact Below.refl _ _⟩)
  have K5 := (show Hid (∀ W, Calls Tryz.prog 24 #[.string ⟨m.toArray⟩] W fun e w' => e = .returned (.string ⟨(escX m).toArray⟩) ∧ Below W.heap.size W w') from fun W => escape_any m W (by omega))
  have K6 := (show Hid (∀ W, Calls Tryz.prog 25 #[.string ⟨m.toArray⟩] W fun e w' => e = .returned (.string ⟨(escX m).toArray⟩) ∧ Below W.heap.size W w') from fun W => (escape_ref m W (by omega)).mono fun e w' h => ⟨h.1, by rw [← h.2]; exact Below.refl _ _⟩)
  have K7 := (show Hid (∀ W, Mx W → Er W → Calls Tryz.prog 13 #[] W fun e w' => e = .returned (.bool true) ∧ Below W.heap.size W w') from fun W a b => awake_any W a b)
  have HU : Hid (∃ x b, entV (une m) = .tuple #[.string x, .bool b] ∧ ∀ e, UsR (une m) e → e = .returned (.tuple #[.string x, .bool b])) := by
    cases h : une m with
    | none =>
      refine ⟨⟨#[]⟩, false, rfl, ?_⟩
      rintro e (⟨t, h, -⟩ | ⟨-, rfl⟩)
      · cases h
      · rfl
    | some t =>
      refine ⟨⟨t.toArray⟩, true, rfl, ?_⟩
      rintro e (⟨t', h, rfl⟩ | ⟨h, -⟩)
      · cases h; rfl
      · cases h
  obtain ⟨x, b, h1, h2⟩ := HU.out
  rw [h1] at K2
  have K1' := (show Hid (Calls Tryz.prog 20 #[.string ⟨m.toArray⟩] w fun e w' => e = .returned (.tuple #[.string x, .bool b]) ∧ Below w.heap.size w w') from K1.mono fun e w' h => ⟨h2 e h.1, h.2⟩)
  have HM : Hid (Mx w ∧ Er w) := ⟨hm, he⟩
  generalize (⟨m.toArray⟩ : ByteArray) = s at *
  generalize (⟨(escX m).toArray⟩ : ByteArray) = y at *
  generalize nameB m = q at *
  clear K1 h1 h2 HU hm he
  go_enter Tryz.func5, Tryz.ntmps5
  go_wp2_with fail
  refine K1'.out.mono ?_
  rintro e w1 ⟨rfl, hb1⟩
  have H1 : Hid (Mx w1 ∧ Er w1 ∧ Below w.heap.size w w1) := ⟨HM.out.1.bel hb1, HM.out.2.bel hb1, hb1⟩
  clear hb1 K1' HM
  go_wp2_with fail
  refine (K2.out _).mono ?_
  rintro e w2 ⟨rfl, hb2⟩
  have H2 : Hid (Mx w2 ∧ Er w2 ∧ Below w.heap.size w w2) := ⟨H1.out.1.bel hb2, H1.out.2.1.bel hb2, H1.out.2.2.trans (hb2.mono H1.out.2.2.size)⟩
  clear hb2 H1 K2
  go_wp2_with fail
  refine (K3.out _).mono ?_
  rintro e w3 ⟨rfl, hb3⟩
  have H3 : Hid (Mx w3 ∧ Er w3 ∧ Below w.heap.size w w3) := ⟨H2.out.1.bel hb3, H2.out.2.1.bel hb3, H2.out.2.2.trans (hb3.mono H2.out.2.2.size)⟩
  clear hb3 H2 K3
  go_wp2_with fail
  refine (K4.out _).mono ?_
  rintro e w4 ⟨rfl, hb4⟩
  have H4 : Hid (Mx w4 ∧ Er w4 ∧ Below w.heap.size w w4) := ⟨H3.out.1.bel hb4, H3.out.2.1.bel hb4, H3.out.2.2.trans (hb4.mono H3.out.2.2.size)⟩
  clear hb4 H3 K4
  go_wp2_with fail
  refine (K5.out _).mono ?_
  rintro e w5 ⟨rfl, hb5⟩
  have H5 : Hid (Mx w5 ∧ Er w5 ∧ Below w.heap.size w w5) := ⟨H4.out.1.bel hb5, H4.out.2.1.bel hb5, H4.out.2.2.trans (hb5.mono H4.out.2.2.size)⟩
  clear hb5 H4 K5
  go_wp2_with fail
  refine (K6.out _).mono ?_
  rintro e w6 ⟨rfl, hb6⟩
  have H6 : Hid (Mx w6 ∧ Er w6 ∧ Below w.heap.size w w6) := ⟨H5.out.1.bel hb6, H5.out.2.1.bel hb6, H5.out.2.2.trans (hb6.mono H5.out.2.2.size)⟩
  clear hb6 H5 K6
  go_wp2_with fail
  refine (K7.out _ H6.out.1 H6.out.2.1).mono ?_
  rintro e w7 ⟨rfl, hb7⟩
  go_wp2
  go_ret
  exact ⟨rfl, H6.out.2.2.trans (hb7.mono H6.out.2.2.size)⟩
end Go.Proofs.YtohkocknpmnakaaGreatDoor
/-
  The law XmlDepths.
-/
namespace Go.Proofs.YtohkocknpmnakaaGreatDoor
open Go.RowKit

set_option maxRecDepth 20000 in
set_option maxHeartbeats 3200000 in
theorem depths_out (z : Int) (x : ByteArray) (w : World) (hx : x.size ≤ 140737488351232) (h : z < 1 ∨ 40 < z ∨ 100 < x.size) (hm : Mx w) (he : Er w) :
    Calls Tryz.prog 8 #[.int .i64 z, .string x] w fun e w' => e = .returned (.bool true) ∧ Below w.heap.size w w' := by
  have KA := (show Hid (Calls Tryz.prog 13 #[] w fun e w' => e = .returned (.bool true) ∧ Below w.heap.size w w') from awake_any w hm he)
  clear hm he
  by_cases h1 : z < 1
  · clear h
    go_enter Tryz.func8, Tryz.ntmps8
    go_wp2_with fail
    refine KA.out.mono ?_
    rintro e w1 ⟨rfl, hb1⟩
    go_wp2
    go_ret
    exact ⟨rfl, hb1⟩
  · by_cases h2 : 40 < z
    · clear h
      go_enter Tryz.func8, Tryz.ntmps8
      go_wp2_with fail
      refine KA.out.mono ?_
      rintro e w1 ⟨rfl, hb1⟩
      go_wp2
      go_ret
      exact ⟨rfl, hb1⟩
    · have h3 : (100 : Int) < (x.size : Int) := by omega
      clear h
      go_enter Tryz.func8, Tryz.ntmps8
      go_wp2_with fail
      refine KA.out.mono ?_
      rintro e w1 ⟨rfl, hb1⟩
      go_wp2
      go_ret
      exact ⟨rfl, hb1⟩
/-- The element that grows, in its box. -/
structure XL (w wx : World) (p k : Nat) (x : List UInt8) (a : Option Addr) (c : Nat) : Prop where
  lo : Below w.heap.size w wx
  bx : Bx wx p (cN x k).nm (cN x k).tx (.slice a (cN x k).ks.length c)
  inc : Kd (fun b => p < b ∧ Cln wx b) k wx a (cN x k).ks
  le : w.heap.size ≤ p
theorem XL.next {w wx : World} {p k : Nat} {x : List UInt8} {a : Option Addr} {c : Nat} (h : XL w wx p k x a c) :
    XL w ((((wx.setCell ⟨p, 0, none⟩ (.string ⟨#[97]⟩)).setCell ⟨p, 1, none⟩ (.string ⟨#[]⟩)).setCell ⟨p, 2, none⟩ (.slice (some ⟨wx.heap.size, 0, none⟩) 1 1)).alloc (.cells #[.string ⟨(cN x k).nm.toArray⟩, .string ⟨(cN x k).tx.toArray⟩, .slice a (cN x k).ks.length c] 24)) p (k + 1) x (some ⟨wx.heap.size, 0, none⟩) 1 := by
  have hpz : p < wx.heap.size := blk_lt h.bx
  have hsz : (((wx.setCell ⟨p, 0, none⟩ (.string ⟨#[97]⟩)).setCell ⟨p, 1, none⟩ (.string ⟨#[]⟩)).setCell ⟨p, 2, none⟩ (.slice (some ⟨wx.heap.size, 0, none⟩) 1 1)).heap.size = wx.heap.size := by simp [World.setCell]
  have hm : Md (fun b => b = p) wx (((wx.setCell ⟨p, 0, none⟩ (.string ⟨#[97]⟩)).setCell ⟨p, 1, none⟩ (.string ⟨#[]⟩)).setCell ⟨p, 2, none⟩ (.slice (some ⟨wx.heap.size, 0, none⟩) 1 1)) := ((((Md.refl (fun b => b = p) _).set (.inl rfl) _ _).set (.inl rfl) _ _).set (.inl rfl) _ _)
  have hp2 : (((wx.setCell ⟨p, 0, none⟩ (.string ⟨#[97]⟩)).setCell ⟨p, 1, none⟩ (.string ⟨#[]⟩)).setCell ⟨p, 2, none⟩ (.slice (some ⟨wx.heap.size, 0, none⟩) 1 1)).heap[p]? = some (.cells #[.string ⟨#[97]⟩, .string ⟨#[]⟩, .slice (some ⟨wx.heap.size, 0, none⟩) 1 1] 24 (0, 0)) := (set_blk (set_blk (set_blk h.bx 0 _) 1 _) 2 _).trans rfl
  generalize ((wx.setCell ⟨p, 0, none⟩ (.string ⟨#[97]⟩)).setCell ⟨p, 1, none⟩ (.string ⟨#[]⟩)).setCell ⟨p, 2, none⟩ (.slice (some ⟨wx.heap.size, 0, none⟩) 1 1) = wA at *
  have hA := heap_alloc_new wA (.cells #[.string ⟨(cN x k).nm.toArray⟩, .string ⟨(cN x k).tx.toArray⟩, .slice a (cN x k).ks.length c] 24)
  have hbA : Below wA.heap.size wA (wA.alloc (.cells #[.string ⟨(cN x k).nm.toArray⟩, .string ⟨(cN x k).tx.toArray⟩, .slice a (cN x k).ks.length c] 24)) := (Below.refl _ _).alloc (Nat.le_refl _) _
  generalize wA.alloc (.cells #[.string ⟨(cN x k).nm.toArray⟩, .string ⟨(cN x k).tx.toArray⟩, .slice a (cN x k).ks.length c] 24) = wB at *
  rw [hsz] at hA hbA
  have hg : wB.heap[wx.heap.size]? = some (.cells #[.string ⟨(cN x k).nm.toArray⟩, .string ⟨(cN x k).tx.toArray⟩, .slice a (cN x k).ks.length c] 24 (0, 0)) := hA
  have hle := h.le
  have hlA : Below w.heap.size w wA := Md.toBelow h.lo hm (fun b hb e => by omega) (Nat.le_refl _)
  refine ⟨hlA.trans (hbA.mono (by omega)), (hbA.block p hpz).trans hp2, ?_, hle⟩
  have hold : ∀ b, p < b → b < wx.heap.size → wB.heap[b]? = wx.heap[b]? := fun b h1 h2 => (hbA.block b h2).trans (hm.block b h2 (by omega))
  have hkids : Kd (fun b => p < b ∧ Cln wB b) k wB a (cN x k).ks := by
    have h2 : Kd (fun b => b < wx.heap.size ∧ p < b ∧ Cln wx b) k wx a (cN x k).ks := Kd.mono (fun b hg hlt => ⟨hlt, hg⟩) h.inc
    have h3 := Kd.keep (w' := wB) (by have := hbA.size; omega) (fun b hg _ => hold b hg.2.1 hg.1) h2
    exact h3.mono (fun b hg _ => ⟨hg.2.1, hg.2.2.keep (hold b hg.2.1 hg.1)⟩)
  refine .inr ⟨wx.heap.size, 0, rfl, ⟨by omega, ⟨_, _, hg⟩⟩, blk_lt hg, fun j hj => ?_⟩
  obtain rfl : j = 0 := by
    have : j < 1 := hj
    omega
  exact ⟨a, c, cell_blk hg 0, cell_blk hg 1, cell_blk hg 2, hkids⟩
theorem Kd.up {G : Nat → Prop} {w : World} : ∀ {h : Nat} {a : Option Addr} {ks : List Nod}, Kd G h w a ks → Kd G (h + 1) w a ks
  | 0, _, _, h => .inl h
  | h + 1, a, ks, hk => by
    rcases hk with hk | ⟨b, off, h1, h2, h3, h4⟩
    · exact .inl hk
    · refine .inr ⟨b, off, h1, h2, h3, fun j hj => ?_⟩
      obtain ⟨a', c', k1, k2, k3, k4⟩ := h4 j hj
      exact ⟨a', c', k1, k2, k3, Kd.up k4⟩
theorem Kd.upto {G : Nat → Prop} {w : World} {h : Nat} {a : Option Addr} {ks : List Nod} (hk : Kd G h w a ks) : ∀ d, Kd G (h + d) w a ks
  | 0 => hk
  | d + 1 => (Kd.upto hk d).up
theorem XL.incs {w wx : World} {p k : Nat} {x : List UInt8} {a : Option Addr} {c : Nat} (h : XL w wx p k x a c) : Inc k wx a (cN x k).ks := Kd.mono (fun _ hg _ => hg.2) h.inc
theorem cN_small (x : List UInt8) : ∀ (m k : Nat), Lng 2513169434916 m (cN x k).ks
  | 0, _ => trivial
  | m + 1, 0 => ⟨Nat.zero_le _, fun t ht => by cases ht⟩
  | m + 1, k + 1 => ⟨by show 1 ≤ _; omega, fun t ht => by
      rw [List.mem_singleton.1 (show t ∈ [cN x k] from ht)]
      exact cN_small x m k⟩
theorem opn_run (k : Nat) (h : k ≤ 100) (wx : World) : (Op.stringOp .add ⟨(opn k).toArray⟩ ⟨#[60, 97, 62]⟩).run Tryz.prog wx = .ok (.string ⟨(opn (k + 1)).toArray⟩) wx := by
  have e : (⟨(opn (k + 1)).toArray⟩ : ByteArray) = ⟨(opn k).toArray⟩ ++ ⟨#[60, 97, 62]⟩ := by
    apply ByteArray.ext
    simp [opn]
  rw [e]
  exact run_string_add_sum wx _ _ (by rw [mk_size, opn_len]; show 3 * k + 3 ≤ _; omega)
theorem cls_run (k : Nat) (h : k ≤ 100) (wx : World) : (Op.stringOp .add ⟨(cls k).toArray⟩ ⟨#[60, 47, 97, 62]⟩).run Tryz.prog wx = .ok (.string ⟨(cls (k + 1)).toArray⟩) wx := by
  have e : (⟨(cls (k + 1)).toArray⟩ : ByteArray) = ⟨(cls k).toArray⟩ ++ ⟨#[60, 47, 97, 62]⟩ := by
    apply ByteArray.ext
    simp [cls]
  rw [e]
  exact run_string_add_sum wx _ _ (by rw [mk_size, cls_len]; show 4 * k + 4 ≤ _; omega)
theorem both_run (k : Nat) (h : k ≤ 100) (wx : World) : (Op.stringOp .add ⟨(opn k).toArray⟩ ⟨(cls k).toArray⟩).run Tryz.prog wx = .ok (.string ⟨(opn k ++ cls k).toArray⟩) wx := by
  have e : (⟨(opn k ++ cls k).toArray⟩ : ByteArray) = ⟨(opn k).toArray⟩ ++ ⟨(cls k).toArray⟩ := by
    apply ByteArray.ext
    simp
  rw [e]
  exact run_string_add_sum wx _ _ (by rw [mk_size, mk_size, opn_len, cls_len]; omega)
end Go.Proofs.YtohkocknpmnakaaGreatDoor
/-
  The law XmlDepths: the walk.
-/
namespace Go.Proofs.YtohkocknpmnakaaGreatDoor
open Go.RowKit

set_option maxRecDepth 20000 in
set_option maxHeartbeats 3200000 in
theorem depths_in (N : Nat) (x : List UInt8) (w : World) (hx : x.length ≤ 100) (hN : N ≤ 39) (hm : Mx w) (he : Er w) :
    Calls Tryz.prog 8 #[.int .i64 ((N : Int) + 1), .string ⟨x.toArray⟩] w fun e w' => e = .returned (.bool true) ∧ Below w.heap.size w w' := by
  have KA := (show Hid (∀ W, Below w.heap.size w W → Calls Tryz.prog 13 #[] W fun e w' => e = .returned (.bool true) ∧ Below W.heap.size W w') from fun W h => awake_any W (hm.bel h) (he.bel h))
  have KO := (show Hid (Calls Tryz.prog 19 #[.string ⟨#[97]⟩, .string ⟨x.toArray⟩] w fun e w' => e = .returned (.agg #[.string ⟨#[97]⟩, .string ⟨x.toArray⟩, .slice none 0 0]) ∧ Below w.heap.size w w') from of_any ⟨#[97]⟩ ⟨x.toArray⟩ w)
  have KP := (show Hid (∀ W, Below w.heap.size w W → Calls Tryz.prog 9 #[.string ⟨(opn (N + 1) ++ cls (N + 1)).toArray⟩] W fun e w' => PaR (opn (N + 1) ++ cls (N + 1)) W e w') from fun W h => parse_any _ W (by rw [List.length_append, opn_len, cls_len]; unfold maxLen; omega) (hm.bel h) (he.bel h))
  have KD := (show Hid (∀ W, Below w.heap.size w W → Calls Tryz.prog 9 #[.string ⟨(docL false (cN x N)).toArray⟩] W fun e w' => PaR (docL false (cN x N)) W e w') from fun W h => parse_any _ W (by have := doc_cN_len x N hx (by omega); unfold maxLen; omega) (hm.bel h) (he.bel h))
  have HM : Hid (Mx w ∧ Er w) := ⟨hm, he⟩
  have hsz : (⟨x.toArray⟩ : ByteArray).size ≤ 100 := by rw [mk_size]; exact hx
  have HX : Hid (x.length ≤ 100) := hx
  have hszI : ¬ (100 : Int) < ((⟨x.toArray⟩ : ByteArray).size : Int) := by omega
  have hN1 : ¬ ((N : Int) + 1 < 1) := by omega
  have hN2 : ¬ (40 : Int) < (N : Int) + 1 := by omega
  obtain ⟨T, hT⟩ : ∃ T : ByteArray, T = ⟨x.toArray⟩ := ⟨_, rfl⟩
  have HT : Hid (T = ⟨x.toArray⟩) := hT
  rw [← hT] at hsz hszI KO ⊢
  clear hm he hx hT
  go_enter Tryz.func8, Tryz.ntmps8
  go_wp2_with fail
  refine KO.out.mono ?_
  rintro e w1 ⟨rfl, hb1⟩
  obtain ⟨p, hp⟩ : ∃ p, p = w1.heap.size := ⟨_, rfl⟩
  obtain ⟨w2, hw2⟩ : ∃ w2, w2 = w1.alloc (.cells #[.string ⟨#[97]⟩, .string T, .slice none 0 0] 24) := ⟨_, rfl⟩
  have H2 : Hid (XL w w2 p 0 x none 0) := by
    rw [hw2, hp, HT.out]
    exact ⟨hb1.alloc hb1.size _, heap_alloc_new _ _, rfl, hb1.size⟩
  clear hb1 KO
  go_wp2
  rw [← hw2, ← hp]
  clear hw2 hp
  go_loopw [6, 7, 8] (fun s t i wx => ∃ (k c : Nat) (a : Option Addr), k ≤ N ∧ i = .int .i64 ((k : Int) + 1) ∧ s = .string ⟨(opn (k + 1)).toArray⟩ ∧ t = .string ⟨(cls (k + 1)).toArray⟩ ∧ XL w wx p k x a c) (fun _ _ i _ => N + 1 - (intOf i).toNat)
  case atStart => exact ⟨0, 0, none, Nat.zero_le _, rfl, rfl, rfl, H2.out⟩
  case round =>
    obtain ⟨k, c, a, hkN, rfl, rfl, rfl, hxl⟩ := hrel
    have hbx := hxl.bx
    have c0 := cell_blk hbx 0
    have c1 := cell_blk hbx 1
    have c2 := cell_blk hbx 2
    simp only [List.getElem?_toArray] at c0 c1 c2
    have f0 := frozen_blk hbx 0
    have f1 := frozen_blk hbx 1
    have f2 := frozen_blk hbx 2
    have hpz : p < wr.heap.size := blk_lt hbx
    by_cases hk : k < N
    · have HZ : Hid (XL w ((((wr.setCell ⟨p, 0, none⟩ (.string ⟨#[97]⟩)).setCell ⟨p, 1, none⟩ (.string ⟨#[]⟩)).setCell ⟨p, 2, none⟩ (.slice (some ⟨wr.heap.size, 0, none⟩) 1 1)).alloc (.cells #[.string ⟨(cN x k).nm.toArray⟩, .string ⟨(cN x k).tx.toArray⟩, .slice a (cN x k).ks.length c] 24)) p (k + 1) x (some ⟨wr.heap.size, 0, none⟩) 1) := hxl.next
      have r1 := opn_run (k + 1) (by omega)
      have r2 := cls_run (k + 1) (by omega)
      have hkI : (k : Int) + 1 < (N : Int) + 1 := by omega
      generalize (⟨(opn (k + 1)).toArray⟩ : ByteArray) = S at *
      generalize (⟨(cls (k + 1)).toArray⟩ : ByteArray) = U at *
      generalize (⟨(cN x k).nm.toArray⟩ : ByteArray) = nm at *
      generalize (⟨(cN x k).tx.toArray⟩ : ByteArray) = tx at *
      clear hbx hxl
      go_wp2
      go_roundw
      case rel => exact ⟨k + 1, 1, _, by omega, by go_num, rfl, rfl, HZ.out⟩
      case measure => simp [intOf]; omega
    · obtain rfl : k = N := by omega
      have r1 := both_run (k + 1) (by omega)
      have HXL : Hid (XL w wr p k x a c) := hxl
      have K1 := KP.out wr hxl.lo
      have K9 := (show Hid (∀ W, Below w.heap.size w W → Inc k W a (cN x k).ks → Calls Tryz.prog 15 #[ndV (cN x k) a c, .bool false] W fun e w' => e = .returned (prnV false (cN x k)) ∧ Below W.heap.size W w') from fun W _ hi => print_any k false (cN x k) a c W hi (by have := doc_cN_len x k HX.out (by omega); omega))
      have hlen1 : (opn (k + 1) ++ cls (k + 1)).length ≤ 65536 := by rw [List.length_append, opn_len, cls_len]; omega
      have hlen2 : (docL false (cN x k)).length ≤ 65536 := doc_cN_len x k HX.out (by omega)
      have hkI : ¬ (k : Int) + 1 < (k : Int) + 1 := by omega
      have HP1 : Hid (∀ e w', PaR (opn (k + 1) ++ cls (k + 1)) wr e w' → Below wr.heap.size wr w' ∧ ∃ (A1 B1 : ByteArray) (a1 : Option Addr) (n1 c1 : Nat), e = .returned (.tuple #[.agg #[.string A1, .string B1, .slice a1 n1 c1], .int .i64 (if k < 16 then 0 else 130)])) := by
        intro e w' hp
        obtain ⟨hb, h | h | ⟨-, t, a, c, hp, rfl, -⟩⟩ := hp
        · omega
        · have hk16 : ¬ k < 16 := by
            intro hlt
            have := h.2.1
            rw [prs_cN, if_pos hlt] at this
            cases this
          exact ⟨hb, ⟨#[]⟩, ⟨#[]⟩, none, 0, 0, by rw [h.2.2, if_neg hk16]; rfl⟩
        · have hk16 : k < 16 := by
            by_cases hlt : k < 16
            · exact hlt
            · rw [prs_cN, if_neg hlt] at hp
              cases hp
          exact ⟨hb, ⟨t.nm.toArray⟩, ⟨t.tx.toArray⟩, a, t.ks.length, c, by rw [if_pos hk16]; rfl⟩
      have HPV : Hid (prnV false (cN x k) = if (decide (k < 16) && Lg x) = true then .tuple #[.string ⟨(docL false (cN x k)).toArray⟩, .int .i64 0] else .tuple #[.string ⟨#[]⟩, .int .i64 130]) := by
        show prnV false (cN x k) = _
        unfold prnV
        rw [okK_cN, if_pos hlen2]
      have HP3 : Hid (∀ W e w', (decide (k < 16) && Lg x) = true → PaR (docL false (cN x k)) W e w' → Below W.heap.size W w' ∧ ∃ a3 c3, e = .returned (.tuple #[ndV (cN x k) a3 c3, .int .i64 0]) ∧ Inp 40 w' a3 (cN x k).ks) := by
        intro W e w' hok hp
        have hd := doc_back false (cN x k) (by rw [okK_cN]; exact hok)
        obtain ⟨hb, h | h | ⟨-, t, a, c, hp, rfl, hk⟩⟩ := hp
        · omega
        · rw [hd] at h
          exact absurd h.2.1 (by simp)
        · rw [hd] at hp
          injection hp with hp
          subst hp
          exact ⟨hb, a, c, rfl, Inm.inp (h := 40) (Nat.le_refl _) ((hk.mono (fun _ _ _ => trivial)).upto 24)⟩
      have K14 := (show Hid (∀ W a3 c3, Inp 40 W a3 (cN x k).ks → Calls Tryz.prog 14 #[ndV (cN x k) a3 c3, .int .i64 40] W fun e w' => e = .returned (.int .i64 ((k : Int) + 1)) ∧ Below W.heap.size W w') from fun W a3 c3 hi => by
        have := deep_all 40 (by omega) (cN x k) a3 c3 W hi (cN_small x 40 k)
        rw [dep_cN x 40 k (by omega)] at this
        exact this)
      have KDK := (show Hid (∀ W, Below w.heap.size w W → Calls Tryz.prog 9 #[.string ⟨(docL false (cN x k)).toArray⟩] W fun e w' => PaR (docL false (cN x k)) W e w') from fun W h => KD.out W h)
      have HB : Hid (Below w.heap.size w wr) := hxl.lo
      have HI : Hid (Inc k wr a (cN x k).ks) := hxl.incs
      have HC := (show Hid (∀ w', Below wr.heap.size wr w' → w'.cell? ⟨p, 0, none⟩ = some (.string ⟨(cN x k).nm.toArray⟩) ∧ w'.cell? ⟨p, 1, none⟩ = some (.string ⟨(cN x k).tx.toArray⟩) ∧ w'.cell? ⟨p, 2, none⟩ = some (.slice a (cN x k).ks.length c)) from fun w' h => by
        have hb := (h.block p hpz).trans hbx
        exact ⟨cell_blk hb 0, cell_blk hb 1, cell_blk hb 2⟩)
      clear hbx hxl hlen1 hlen2 H2 HM KP KD HX HXL c0 c1 c2 f0 f1 f2
      unfold ndV at K9 HP3 K14
      generalize (⟨(opn (k + 1)).toArray⟩ : ByteArray) = S at *
      generalize (⟨(cls (k + 1)).toArray⟩ : ByteArray) = U at *
      generalize hnm : (⟨(cN x k).nm.toArray⟩ : ByteArray) = nm at *
      generalize htx : (⟨(cN x k).tx.toArray⟩ : ByteArray) = tx at *
      clear hnm htx
      by_cases hk16 : k < 16
      · rw [if_pos hk16] at HP1
        rw [decide_eq_true hk16, Bool.true_and] at HPV HP3
        have hkJ : (k : Int) + 1 ≤ 16 := by omega
        go_wp2_with fail
        refine K1.mono ?_
        rintro e w3 hpar
        obtain ⟨hb3, A1, B1, a1, n1, c1, rfl⟩ := HP1.out _ _ hpar
        obtain ⟨w4, hw4⟩ : ∃ w4, w4 = w3.alloc (.cells #[.string A1, .string B1, .slice a1 n1 c1] 24) := ⟨_, rfl⟩
        have hb4 : Below wr.heap.size wr w4 := by rw [hw4]; exact hb3.alloc hb3.size _
        obtain ⟨c0, c1', c2⟩ := HC.out w4 hb4
        have hlo4 := HB.out.trans (hb4.mono HB.out.size)
        have K15 := K9.out w4 hlo4 (HI.out.below hb4)
        have H4 : Hid (Below w.heap.size w w4) := hlo4
        clear hpar hb3 hb4 hlo4 K1
        subst hw4
        by_cases hlg : Lg x = true
        · rw [hlg, if_pos rfl] at HPV
          rw [HPV.out] at K15
          generalize (⟨(docL false (cN x k)).toArray⟩ : ByteArray) = DD at *
          go_wp2_with fail
          refine K15.mono ?_
          rintro e w5 ⟨rfl, hb5⟩
          have H5 : Hid (Below w.heap.size w w5) := H4.out.trans (hb5.mono H4.out.size)
          clear hb5 K15 c0 c1' c2
          go_wp2_with fail
          refine (KDK.out _ H5.out).mono ?_
          rintro e w6 hpar
          obtain ⟨hb6, a3, c3, rfl, hinp⟩ := HP3.out _ _ _ hlg hpar
          have hlo6 := H5.out.trans (hb6.mono H5.out.size)
          obtain ⟨w7, hw7⟩ : ∃ w7, w7 = w6.alloc (.cells #[.string nm, .string tx, .slice a3 (cN x k).ks.length c3] 24) := ⟨_, rfl⟩
          have hbA : Below w6.heap.size w6 w7 := by rw [hw7]; exact (Below.refl _ _).alloc (Nat.le_refl _) _
          have K40 := K14.out w7 a3 c3 (hinp.below hbA)
          have H7 : Hid (Below w.heap.size w w7) := hlo6.trans (hbA.mono hlo6.size)
          clear hpar hb6 hlo6 hinp hbA
          subst hw7
          go_wp2_with fail
          refine K40.mono ?_
          rintro e w8 ⟨rfl, hb8⟩
          have H8 : Hid (Below w.heap.size w w8) := H7.out.trans (hb8.mono H7.out.size)
          clear hb8 K40
          go_wp2_with fail
          refine (KA.out _ H8.out).mono ?_
          rintro e w9 ⟨rfl, hb9⟩
          go_wp2
          go_ret
          exact ⟨rfl, H8.out.trans (hb9.mono H8.out.size)⟩
        · rw [if_neg hlg] at HPV
          rw [HPV.out] at K15
          clear HP3 KDK K14 HPV
          go_wp2_with fail
          refine K15.mono ?_
          rintro e w5 ⟨rfl, hb5⟩
          have H5 : Hid (Below w.heap.size w w5) := H4.out.trans (hb5.mono H4.out.size)
          clear hb5 K15 c0 c1' c2
          go_wp2_with fail
          refine (KA.out _ H5.out).mono ?_
          rintro e w6 ⟨rfl, hb6⟩
          go_wp2
          go_ret
          exact ⟨rfl, H5.out.trans (hb6.mono H5.out.size)⟩
      · rw [if_neg hk16] at HP1
        rw [decide_eq_false hk16, Bool.false_and, if_neg (by simp)] at HPV
        rw [HPV.out] at K9
        have hkJ : ¬ (k : Int) + 1 ≤ 16 := by omega
        clear HP3 KDK K14 HPV
        go_wp2_with fail
        refine K1.mono ?_
        rintro e w3 hpar
        obtain ⟨hb3, A1, B1, a1, n1, c1, rfl⟩ := HP1.out _ _ hpar
        obtain ⟨w4, hw4⟩ : ∃ w4, w4 = w3.alloc (.cells #[.string A1, .string B1, .slice a1 n1 c1] 24) := ⟨_, rfl⟩
        have hb4 : Below wr.heap.size wr w4 := by rw [hw4]; exact hb3.alloc hb3.size _
        obtain ⟨c0, c1', c2⟩ := HC.out w4 hb4
        have hlo4 := HB.out.trans (hb4.mono HB.out.size)
        have K15 := K9.out w4 hlo4 (HI.out.below hb4)
        have H4 : Hid (Below w.heap.size w w4) := hlo4
        clear hpar hb3 hb4 hlo4 K1
        subst hw4
        go_wp2_with fail
        refine K15.mono ?_
        rintro e w5 ⟨rfl, hb5⟩
        have H5 : Hid (Below w.heap.size w w5) := H4.out.trans (hb5.mono H4.out.size)
        clear hb5 K15 c0 c1' c2
        go_wp2_with fail
        refine (KA.out _ H5.out).mono ?_
        rintro e w6 ⟨rfl, hb6⟩
        go_wp2
        go_ret
        exact ⟨rfl, H5.out.trans (hb6.mono H5.out.size)⟩
end Go.Proofs.YtohkocknpmnakaaGreatDoor
