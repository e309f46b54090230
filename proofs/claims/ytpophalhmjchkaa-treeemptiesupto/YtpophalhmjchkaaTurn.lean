/-
  Rows of one's own whose cells are pointers and slices alone: growing one turns nothing that a tree or a list of pairs lies in.
-/
import Derived.Test.YtpophalhmjchkaaScr
import Derived.Test.YtpophalhmjchkaaRefW
namespace Go.Proofs.Ytpophalhmjchkaa
open Go.RowKit

/-- What the cells of trees' rows hold. -/
def isT : Value → Bool
  | .string _ => true
  | .iface _ _ => true
  | _ => false
/-- A row of one's own without such cells. -/
structure PRow (w : World) (base e : Nat) (v : Value) (n : Nat) (xs : List Value) : Prop where
  own : w.ownsRow base e 1 v n xs
  all : ∀ g cur, v.ownBlock = some g → w.heap[g]? = some (.cells cur e (0, 0)) → ∀ u ∈ cur.toList, isT u = false
theorem PRow.nil (w : World) (base e : Nat) : PRow w base e (.slice none 0 0) 0 [] := ⟨World.ownsRow_nil _ _ _ _, fun g cur h => by simp [Value.ownBlock] at h⟩
theorem PRow.block {w : World} {base e : Nat} {v : Value} {n : Nat} {xs : List Value} (h : PRow w base e v n xs) {g : Nat} (hg : v.ownBlock = some g) : ∃ cur, w.heap[g]? = some (.cells cur e (0, 0)) ∧ base ≤ g ∧ ∀ u ∈ cur.toList, isT u = false := by
  rcases h.own.2 with ⟨rfl, _⟩ | ⟨g', cap, cur, rfl, hb, hc, _⟩
  · simp [Value.ownBlock] at hg
  · simp only [Value.ownBlock, Option.some.injEq] at hg
    subst hg
    exact ⟨cur, hc, hb, h.all g' cur rfl hc⟩
theorem PRow.below {w w' : World} {base e : Nat} {v : Value} {n : Nat} {xs : List Value} (h : PRow w base e v n xs) (hb : Below w.heap.size w w') : PRow w' base e v n xs := by
  refine ⟨own_below h.own hb, fun g cur hg hc => ?_⟩
  obtain ⟨cur', hc', _, ha⟩ := h.block hg
  have := (hb.block g (Array.getElem?_eq_some_iff.1 hc').1).trans hc'
  rw [hc] at this
  simp only [Option.some.injEq, Obj.cells.injEq] at this
  rw [this.1]
  exact ha
theorem PRow.kept {w w' : World} {base e e2 n2 : Nat} {v u : Value} {n : Nat} {xs ys : List Value} (h : PRow w base e v n xs) (hu : PRow w base e2 u n2 ys) (he : e ≠ e2) (hg : w.grownBy w' u.ownBlock) : PRow w' base e v n xs := by
  have hne := rows_ne h.own hu.own he
  refine ⟨World.ownsRow.kept h.own hg hne, fun g cur hv hc => ?_⟩
  obtain ⟨cur', hc', _, ha⟩ := h.block hv
  have hne' : some g ≠ u.ownBlock := by
    rcases hne with hn | hn
    · rw [hn] at hv; cases hv
    · rw [← hv]; exact hn
  have := (hg.block g (Array.getElem?_eq_some_iff.1 hc').1 hne').trans hc'
  rw [hc] at this
  simp only [Option.some.injEq, Obj.cells.injEq] at this
  rw [this.1]
  exact ha

theorem append_P {P : Program} (w : World) (base : Nat) (t ty e : TypeId) (i : TypeInfo) (z : Value) (bytes : Nat) (ht : P.underlying t = some (.slice e)) (hi : P.info? e = some i) (hz : i.zero = some z)
    (hsize : i.size = 1) (hby : i.bytes = bytes) (hzs : z.cells = #[z]) (hz0 : isT z = false)
    (v : Value) (n : Nat) (xs : List Value) (hown : PRow w base e v n xs)
    (a : Addr) (c : Nat) (x : Value) (hnew : w.cell? a = some x) (h1 : x.oneCell' = true) (hx : isT x = false)
    (h63 : n + 1 ≤ maxLen) (hbytes : (n + 1) * bytes ≤ 140737488355328) (hbase : base ≤ w.heap.size) :
    ∃ v' w', (Builtin.append_ #[t, t] ty #[v, .slice (some a) 1 c]).run P w = .ok v' w' ∧ PRow w' base e v' (n + 1) (xs ++ [x]) ∧ w.grownBy w' v.ownBlock := by
  have hnews : ∀ j u, [x][j]? = some u → w.cell? (a.add j) = some u := by
    intro j u hj
    cases j with
    | zero =>
      simp only [List.getElem?_cons_zero, Option.some.injEq] at hj
      subst hj
      have : a.add 0 = a := by simp [Addr.add]
      rw [this]; exact hnew
    | succ j => simp at hj
  have hone : ∀ u ∈ [x], u.oneCell' = true := by simpa using h1
  obtain ⟨v', w', hr, h2, h3, h4⟩ := run_append_own (P := P) w base t ty e i z 1 bytes ht hi hz hsize hby (by rw [hzs]; rfl) (by decide) v n xs hown.own a 1 c [x] rfl hnews hone h63 hbytes hbase
  refine ⟨v', w', hr, ⟨h2, ?_⟩, h3⟩
  have hzero : ∀ k, ∀ u ∈ (Builtin.zeroCells z.cells k).toList, isT u = false := by
    intro k u hu
    rw [hzs] at hu
    have : u = z := by
      simp only [Builtin.zeroCells] at hu
      obtain ⟨q, _, h5⟩ : ∃ q, q < k ∧ [z][q % 1]?.getD default = u := by simpa using hu
      rw [Nat.mod_one] at h5
      simpa using h5.symm
    rw [this]; exact hz0
  subst hby
  have hsmall : n + 1 ≤ 9223372036854775807 := by simp only [maxLen] at h63; omega
  rcases hown.own.2 with ⟨rfl, rfl⟩ | ⟨g, cap, cur, rfl, hbg, hg, hnc, hcm, hcs, htake⟩
  · have hr2 := run_append_nil (P := P) w t ty e i z ht hi hz a 1 c [x] (by rw [hsize]; rfl) hnews (by omega) (by omega) (by simp only [Nat.zero_add] at hbytes; omega)
    rw [hr] at hr2
    simp only [Result.ok.injEq] at hr2
    obtain ⟨rfl, rfl⟩ := hr2
    intro g cur hg hc u hu
    simp only [Value.ownBlock, Option.some.injEq] at hg
    subst hg
    have := heap_alloc_new w.drew (.cells (#[x] ++ Builtin.zeroCells z.cells (grownCap w 1 0 e - 1)) e)
    rw [show w.drew.heap.size = w.heap.size from rfl] at this
    rw [hc] at this
    simp only [Option.some.injEq, Obj.cells.injEq] at this
    rw [this.1] at hu
    simp only [Array.toList_append, List.mem_append] at hu
    rcases hu with hu | hu
    · simp at hu; rw [hu]; exact hx
    · exact hzero _ u hu
  · have hall := hown.all g cur rfl hg
    by_cases hroom : n + 1 ≤ cap
    · have hfit : n * i.size + [x].length ≤ cur.size := by rw [hcs, hsize]; simp; omega
      have hr2 := run_append_room (P := P) w t ty e i ht hi g n cap cur hg a 1 c [x] (by rw [hsize]; rfl) hnews hone hroom hfit
      rw [hr] at hr2
      simp only [Result.ok.injEq] at hr2
      obtain ⟨rfl, rfl⟩ := hr2
      intro g' cur' hg' hc u hu
      simp only [Value.ownBlock, Option.some.injEq] at hg'
      subst hg'
      have hlt := (Array.getElem?_eq_some_iff.1 hg).1
      have : (w.setRow g (cur.toList.take (n * i.size) ++ [x] ++ cur.toList.drop (n * i.size + [x].length)).toArray).heap[g]? = some (.cells (cur.toList.take (n * i.size) ++ [x] ++ cur.toList.drop (n * i.size + [x].length)).toArray e (0, 0)) := by
        have he := (Array.getElem?_eq_some_iff.1 hg).2
        unfold World.setRow
        show (w.heap.modify g _)[g]? = _
        rw [Array.getElem?_eq_getElem (by rw [Array.size_modify]; exact hlt), Array.getElem_modify_self, he]
      rw [hc] at this
      simp only [Option.some.injEq, Obj.cells.injEq] at this
      rw [this.1] at hu
      simp only [List.mem_append] at hu
      rcases hu with (hu | hu) | hu
      · exact hall u (List.mem_of_mem_take hu)
      · simp at hu; rw [hu]; exact hx
      · exact hall u (List.mem_of_mem_drop hu)
    · have hr2 := run_append_grow (P := P) w t ty e i z ht hi hz ⟨g, 0, none⟩ n cap xs (by rw [hsize]; exact hown.own.1) (hown.own.cells (g := g) rfl) a 1 c [x] (by rw [hsize]; rfl) hnews (by omega) (by omega) (growslice_fits (by omega) hbytes)
      rw [hr] at hr2
      simp only [Result.ok.injEq] at hr2
      obtain ⟨rfl, rfl⟩ := hr2
      intro g' cur' hg' hc u hu
      simp only [Value.ownBlock, Option.some.injEq] at hg'
      subst hg'
      have := heap_alloc_new w.drew (.cells (xs.toArray ++ #[x] ++ Builtin.zeroCells z.cells (grownCap w (n + 1) cap e - (n + 1))) e)
      rw [show w.drew.heap.size = w.heap.size from rfl] at this
      rw [hc] at this
      simp only [Option.some.injEq, Obj.cells.injEq] at this
      rw [this.1] at hu
      simp only [Array.toList_append, List.mem_append] at hu
      rcases hu with (hu | hu) | hu
      · have hu' : u ∈ xs := by simpa using hu
        rw [← htake] at hu'
        exact hall u (List.mem_of_mem_take hu')
      · simp at hu; rw [hu]; exact hx
      · exact hzero _ u hu
theorem wpList_append_P {P : Program} {w : World} {ops : Array Oper} {rest : List Oper} {o : Oper} {a : Act} {Q : Exit → Act → World → Prop} (hgd : o.guard = none) (s x : Operand) (t : TypeId)
    (ho : o.op = .call { callee := .builtin .append, args := #[s, x], argTypes := #[t, t] }) (base : Nat) (e : TypeId) (i : TypeInfo) (z : Value) (bytes : Nat) (ht : P.underlying t = some (.slice e)) (hi : P.info? e = some i) (hz : i.zero = some z)
    (hsize : i.size = 1) (hby : i.bytes = bytes) (hzs : z.cells = #[z]) (hz0 : isT z = false)
    (v : Value) (n : Nat) (xs : List Value) (hs : a.eval s = v) (hown : PRow w base e v n xs)
    (ad : Addr) (c : Nat) (y : Value) (hx : a.eval x = .slice (some ad) 1 c) (hnew : w.cell? ad = some y) (h1 : y.oneCell' = true) (hy : isT y = false)
    (h63 : n + 1 ≤ maxLen) (hbytes : (n + 1) * bytes ≤ 140737488355328) (hbase : base ≤ w.heap.size)
    (h : ∀ v' w', PRow w' base e v' (n + 1) (xs ++ [y]) → w.grownBy w' v.ownBlock → wpList P ops Q rest (a.put o.dst v') w') : wpList P ops Q (o :: rest) a w := by
  obtain ⟨v', w', hr, h2, h3⟩ := append_P (P := P) w base t o.type e i z bytes ht hi hz hsize hby hzs hz0 v n xs hown ad c y hnew h1 hy h63 hbytes hbase
  refine wpList_plain hgd fun _ hK => ?_
  unfold Oper.wp execOp
  simp only [ho, resolve, invoke, builtin, Sem.run_bind, Sem.run_pure, Result.andThen_ok, List.map_toArray, List.map_cons, List.map_nil, hs, hx, hr]
  exact hK _ _ (h v' w' h2 h3)

/-- One block alone is turned, and no tree's cells lie in it. -/
structure Trn (w w' : World) (row : Option Nat) (e : Nat) : Prop where
  g : w.grownBy w' row
  r : ∀ k, row = some k → ∃ cur, w.heap[k]? = some (.cells cur e (0, 0)) ∧ ∀ u ∈ cur.toList, isT u = false
theorem PRow.trn {w w' : World} {base e : Nat} {v : Value} {n : Nat} {xs : List Value} (h : PRow w base e v n xs) (hg : w.grownBy w' v.ownBlock) : Trn w w' v.ownBlock e :=
  ⟨hg, fun k hk => by obtain ⟨cur, h1, _, h2⟩ := h.block hk; exact ⟨cur, h1, h2⟩⟩
theorem Sl.trn {w w' : World} {row : Option Nat} {e size : Nat} {a : Option Addr} {n c : Nat} {vs : List Value} (h : Sl w size a n c vs) (hv : ∀ u ∈ vs, isT u = true) (ht : Trn w w' row e) : Sl w' size a n c vs := by
  refine ⟨?_, h.len, h.cap, h.nil, h.spot, h.one, (by intro _ x e h; cases h), Av.none _⟩
  rcases h.cl with h0 | ⟨b, off, he, hl, hc⟩
  · exact .inl h0
  · by_cases h0 : vs = []
    · exact .inl h0
    · have h0' : 0 < vs.length := List.length_pos_iff.2 h0
      have hne : some b ≠ row := by
        intro hb
        obtain ⟨cur, h1, h2⟩ := ht.r b hb.symm
        have h3 := hc 0 h0'
        simp only [World.cell?, h1] at h3
        have h4 : cur[off]? = some vs[0] := by simpa using h3
        have h5 : vs[0] ∈ cur.toList := by
          rw [← Array.getElem?_toList] at h4
          exact List.mem_of_getElem? h4
        have h6 := h2 _ h5
        rw [hv _ (List.getElem_mem h0')] at h6
        cases h6
      exact .inr ⟨b, off, he, Nat.lt_of_lt_of_le hl ht.g.size, fun j hj => (World.cell?_of_block (ht.g.block b hl hne)).trans (hc j hj)⟩
theorem Trn.blk {w w' : World} {row : Option Nat} {e k t : Nat} {c : Array Value} {m : Nat × Nat} (h : Trn w w' row e) (hk : w.heap[k]? = some (.cells c t m)) (hne : t ≠ e) : w'.heap[k]? = some (.cells c t m) := by
  refine (h.g.block k (Array.getElem?_eq_some_iff.1 hk).1 ?_).trans hk
  intro hr
  obtain ⟨cur, h1, _⟩ := h.r k hr.symm
  rw [hk] at h1
  simp only [Option.some.injEq, Obj.cells.injEq] at h1
  exact hne h1.2.1
theorem pcs_isT (ps : List KV) : ∀ u ∈ pcs ps, isT u = true := by
  intro u hu
  simp only [pcs, List.mem_flatMap] at hu
  obtain ⟨p, _, hu⟩ := hu
  simp at hu
  rcases hu with rfl | rfl <;> rfl
theorem scs_isT (bs : List ByteArray) : ∀ u ∈ scs bs, isT u = true := by
  intro u hu
  simp only [scs, List.mem_map] at hu
  obtain ⟨p, _, rfl⟩ := hu
  rfl
theorem all2_isT {w : World} {h : Nat} : ∀ {vs : List Value} {ts : List T}, All2 (Nd w h) vs ts → ∀ u ∈ vs, isT u = true
  | [], [], _ => by simp
  | v :: vs, t :: ts, hh => by
    intro u hu
    rcases List.mem_cons.1 hu with rfl | hu
    · obtain ⟨ty, bx, rfl⟩ := Nd.ptr hh.1; rfl
    · exact all2_isT hh.2 u hu
  | [], _ :: _, hh => hh.elim
  | _ :: _, [], hh => hh.elim
theorem Nd.trn {w w' : World} {row : Option Nat} {e : Nat} (ht : Trn w w' row e) (h1 : 59 ≠ e) (h2 : 85 ≠ e) : ∀ {h : Nat} {v : Value} {t : T}, Nd w h v t → Nd w' h v t
  | 0, _, .leaf ps, hn => by
    obtain ⟨b, he, a, c, q1, q2⟩ := hn
    exact ⟨b, he, a, c, ht.blk q1 h1, q2.trn (pcs_isT _) ht⟩
  | h + 1, _, .inner _ _, hn => by
    obtain ⟨b, he, a1, c1, a2, c2, vs, q1, q2, q3, q4⟩ := hn
    exact ⟨b, he, a1, c1, a2, c2, vs, ht.blk q1 h2, q2.trn (scs_isT _) ht, q3.trn (all2_isT q4) ht, q4.mono fun _ _ hh => Nd.trn ht h1 h2 hh⟩
  | 0, _, .inner _ _, hn => hn.elim
  | _ + 1, _, .leaf _, hn => hn.elim
theorem Tr.trn {w w' : World} {row : Option Nat} {e b h : Nat} {t : T} (hT : Tr w b h t) (ht : Trn w w' row e) (h1 : 59 ≠ e) (h2 : 85 ≠ e) (h3 : 63 ≠ e) : Tr w' b h t := by
  obtain ⟨v, q1, q2, q3⟩ := hT
  exact ⟨v, ht.blk q1 h3, q2.trn ht h1 h2, q3⟩
end Go.Proofs.Ytpophalhmjchkaa
