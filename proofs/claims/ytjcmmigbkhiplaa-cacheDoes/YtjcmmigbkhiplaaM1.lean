/- A map from numbers to blocks, as a list of keys and blocks: what a look-up, a store, delete, len and a range do with it. -/
import Derived.Test.YtjcmmigbkhiplaaE2
import Derived.Maps.RangeWalk
set_option linter.unusedSimpArgs false
set_option linter.unusedVariables false
namespace Go.Proofs.Ytjcmmigbkhiplaa
open Go.RowKit Go.Attic Go.Maps

theorem law3 : Keyed Try.prog 3 := int_keyed Try.underlying3
theorem zero80 (w : World) : (zeroValue 80).run Try.prog w = .ok (.pointer none) w := by kernel_rfl
theorem wf64 {a : Int} (h0 : -9223372036854775808 ≤ a) (h1 : a ≤ 9223372036854775807) : (Lit.int .i64 a).wf = true := WalkArith.wf_i64 ⟨h0, h1⟩

/-- A pointer to a block, or none. -/
def mkPtr : Option Nat → Value
  | none => .pointer none
  | some b => .pointer (some ⟨b, 0, none⟩)
/-- How it reads. -/
def ptrElem : Value → Option (DataW Unit × List MemPlace)
  | .pointer none => some (.nil, [])
  | .pointer (some ⟨b, 0, none⟩) => some (.lit (.int .i64 (b : Int)), [])
  | _ => none
theorem ptrElem_mk (c : Option Nat) : ptrElem (mkPtr c) = some ((match c with | none => .nil | some b => .lit (.int .i64 (b : Int))), []) := by
  cases c <;> rfl
theorem ptrElem_inv {v : Value} {y : DataW Unit × List MemPlace} (h : ptrElem v = some y) : ∃ c, v = mkPtr c := by
  unfold ptrElem at h
  split at h
  · exact ⟨none, rfl⟩
  · exact ⟨some _, rfl⟩
  · cases h
theorem ptrElem_nil {v : Value} {ps : List MemPlace} (h : ptrElem v = some (.nil, ps)) : v = .pointer none := by
  obtain ⟨c, rfl⟩ := ptrElem_inv h
  rw [ptrElem_mk] at h
  cases c with
  | none => rfl
  | some b => simp at h
theorem ptrElem_lit {v : Value} {b : Nat} {ps : List MemPlace} (h : ptrElem v = some (.lit (.int .i64 (b : Int)), ps)) : v = .pointer (some ⟨b, 0, none⟩) := by
  obtain ⟨c, rfl⟩ := ptrElem_inv h
  rw [ptrElem_mk] at h
  cases c with
  | none => simp at h
  | some b' =>
    have : (b' : Int) = (b : Int) := by have h2 := h; simp at h2; omega
    have : b' = b := by omega
    rw [this]; rfl

/-- The map read as D has these keys, each with its block. -/
structure Ks (D : DataW Unit) (K : List (Int × Nat)) : Prop where
  size : Maps.size D = K.length
  has : ∀ i, Maps.has D (.int .i64 i) = K.any (fun x => x.1 == i)
  at_ : ∀ x ∈ K, ∀ z, D.atKey (.int .i64 x.1) z = .lit (.int .i64 (x.2 : Int))
  key : K.Pairwise (fun x y => x.1 ≠ y.1)
  wf : ∀ x ∈ K, (Lit.int .i64 x.1).wf = true

/-- Block b is a map with these keys and blocks. -/
def MpAt (w : World) (b : Nat) (K : List (Int × Nat)) : Prop := ∃ D : DataW Unit, w.ownsMap Try.prog 3 ptrElem b K.length D ∧ Ks D K

theorem tight {w : World} {b n : Nat} {D : DataW Unit} (h : w.ownsMap Try.prog 3 ptrElem b n D) : w.ownsMap Try.prog 3 ptrElem b (Maps.size D) D := by
  obtain ⟨es, clock, hb, F, hs, rfl⟩ := h
  exact ⟨es, clock, hb, F, by simp [Maps.size, length_sorted], rfl⟩

theorem MpAt.made (w : World) : MpAt (w.alloc (.map #[] 0)) w.heap.size [] :=
  ⟨.map [], World.ownsMap_made w _ _ _, ⟨rfl, fun _ => rfl, by simp, by simp, by simp⟩⟩
theorem MpAt.kept {w w' : World} {b : Nat} {K : List (Int × Nat)} {row : Option Nat} (h : MpAt w b K) (hg : w.grownBy w' row) (hne : some b ≠ row) : MpAt w' b K := by
  obtain ⟨D, h1, h2⟩ := h
  exact ⟨D, h1.kept hg hne, h2⟩
theorem MpAt.lt {w : World} {b : Nat} {K : List (Int × Nat)} (h : MpAt w b K) : b < w.heap.size := by
  obtain ⟨D, h1, h2⟩ := h
  exact h1.lt
theorem MpAt.keeps {w w' : World} {b : Nat} {K : List (Int × Nat)} {S : Nat → Prop} (h : MpAt w b K) (hk : Keeps S w w') (hb : ¬ S b) : MpAt w' b K := by
  obtain ⟨D, ⟨es, clock, hb', F, hs, hD⟩, h2⟩ := h
  exact ⟨D, ⟨es, clock, by rw [hk.block b (Array.getElem?_eq_some_iff.1 hb').1 hb]; exact hb', F, hs, hD⟩, h2⟩
theorem MpAt.nodup {w : World} {b : Nat} {K : List (Int × Nat)} (h : MpAt w b K) : K.Pairwise (fun x y => x.1 ≠ y.1) := by
  obtain ⟨D, _, h2⟩ := h
  exact h2.key
theorem MpAt.perm {w : World} {b : Nat} {K K' : List (Int × Nat)} (h : MpAt w b K) (hp : K.Perm K') : MpAt w b K' := by
  obtain ⟨D, h1, h2⟩ := h
  refine ⟨D, by rw [← hp.length_eq]; exact h1, ⟨h2.size.trans hp.length_eq, fun i => ?_, fun x hx => h2.at_ x (hp.mem_iff.2 hx), (hp.pairwise_iff (fun {_ _} hne => Ne.symm hne)).1 h2.key, fun x hx => h2.wf x (hp.mem_iff.2 hx)⟩⟩
  rw [h2.has i]
  rw [Bool.eq_iff_iff, List.any_eq_true, List.any_eq_true]
  constructor
  · rintro ⟨x, hx, he⟩; exact ⟨x, hp.mem_iff.1 hx, he⟩
  · rintro ⟨x, hx, he⟩; exact ⟨x, hp.mem_iff.2 hx, he⟩

/-- A key that is there: its block. -/
theorem MpAt.look {w : World} {b : Nat} {K : List (Int × Nat)} (h : MpAt w b K) (x : Int × Nat) (hx : x ∈ K) :
    (Instr.lookup 60 (.map (some b)) (.int .i64 x.1) false).run Try.prog w = .ok (.pointer (some ⟨x.2, 0, none⟩)) w := by
  obtain ⟨D, h1, h2⟩ := h
  obtain ⟨v, ps, hr, hv⟩ := h1.lookup law3 Try.underlying60 (zero80 w) (zd := .nil) (zp := []) rfl (keyOf_int_mk Try.underlying3 (h2.wf x hx))
  rw [h2.at_ x hx] at hv
  rw [ptrElem_lit hv] at hr
  exact hr
/-- One that is not: none. -/
theorem MpAt.miss {w : World} {b : Nat} {K : List (Int × Nat)} (h : MpAt w b K) (i : Int) (hi : -9223372036854775808 ≤ i ∧ i ≤ 9223372036854775807) (hx : ∀ x ∈ K, x.1 ≠ i) :
    (Instr.lookup 60 (.map (some b)) (.int .i64 i) false).run Try.prog w = .ok (.pointer none) w := by
  obtain ⟨D, h1, h2⟩ := h
  obtain ⟨v, ps, hr, hv⟩ := h1.lookup law3 Try.underlying60 (zero80 w) (zd := .nil) (zp := []) rfl (keyOf_int_mk Try.underlying3 (wf64 hi.1 hi.2))
  rw [Maps.atKey_of_not_has (by rw [h2.has i, List.any_eq_false]; intro x hx'; simpa using hx x hx')] at hv
  rw [ptrElem_nil hv] at hr
  exact hr
theorem MpAt.len {w : World} {b : Nat} {K : List (Int × Nat)} (h : MpAt w b K) (ty : TypeId) : (Builtin.len_ #[60] ty #[.map (some b)]).run Try.prog w = .ok (.int .i64 (K.length : Int)) w := by
  obtain ⟨D, h1, h2⟩ := h
  rw [h1.len Try.underlying60 ty, h2.size]

theorem any_filter (K : List (Int × Nat)) (i j : Int) : (K.filter fun x => x.1 != i).any (fun x => x.1 == j) = (K.any (fun x => x.1 == j) && j != i) := by
  rw [Bool.eq_iff_iff, List.any_eq_true, Bool.and_eq_true, List.any_eq_true]
  constructor
  · rintro ⟨x, hx, he⟩
    obtain ⟨h1, h2⟩ := List.mem_filter.1 hx
    have : x.1 = j := by simpa using he
    exact ⟨⟨x, h1, he⟩, by rw [← this]; exact h2⟩
  · rintro ⟨⟨x, hx, he⟩, hj⟩
    have : x.1 = j := by simpa using he
    exact ⟨x, List.mem_filter.2 ⟨hx, by rw [this]; exact hj⟩, he⟩
theorem filter_len {K : List (Int × Nat)} (hk : K.Pairwise (fun x y => x.1 ≠ y.1)) (i : Int) : (K.filter fun x => x.1 != i).length + (if K.any (fun x => x.1 == i) then 1 else 0) = K.length := by
  induction K with
  | nil => rfl
  | cons y r ih =>
    obtain ⟨h1, h2⟩ := List.pairwise_cons.1 hk
    have ih := ih h2
    by_cases hy : y.1 = i
    · have hr : r.any (fun x => x.1 == i) = false := by
        rw [List.any_eq_false]
        intro x hx
        have := h1 x hx
        simp; omega
      rw [hr] at ih
      simp [List.filter_cons, hy] at ih ⊢
      exact ih
    · have e1 : (y.1 != i) = true := by simpa using hy
      have e2 : (y.1 == i) = false := by simpa using hy
      simp only [List.filter_cons, e1, if_true, List.length_cons, List.any_cons, e2, Bool.false_or]
      omega

/-- 'delete'. -/
theorem MpAt.drop {w : World} {b : Nat} {K : List (Int × Nat)} (h : MpAt w b K) (i : Int) (hi : -9223372036854775808 ≤ i ∧ i ≤ 9223372036854775807) (ty : TypeId) :
    ∃ w', (Builtin.delete_ #[60, 3] ty #[.map (some b), .int .i64 i]).run Try.prog w = .ok (.tuple #[]) w' ∧ MpAt w' b (K.filter fun x => x.1 != i) ∧ w.grownBy w' (some b) ∧ w'.heap.size = w.heap.size := by
  obtain ⟨D, h1, h2⟩ := h
  obtain ⟨w', hr, ho, ht⟩ := h1.drop law3 Try.underlying60 (keyOf_int_mk Try.underlying3 (wf64 hi.1 hi.2)) ty
  have hs := Maps.size_del (k := .int .i64 i) (h1.tidy law3)
  have hf := filter_len h2.key i
  rw [h2.has i, h2.size] at hs
  have hsz : Maps.size (D.del (.int .i64 i)) = (K.filter fun x => x.1 != i).length := by omega
  refine ⟨w', hr, ⟨_, by rw [← hsz]; exact tight ho, ⟨hsz, fun j => ?_, fun x hx z => ?_, h2.key.filter _, fun x hx => h2.wf x (List.mem_filter.1 hx).1⟩⟩, ht.grown, ?_⟩
  · rw [any_filter]
    by_cases hj : j = i
    · subst hj
      rw [Maps.has_del_same]; simp
    · rw [Maps.has_del_other (by simpa using hj), h2.has j]
      simp [hj]
  · obtain ⟨hx1, hx2⟩ := List.mem_filter.1 hx
    have : x.1 ≠ i := by simpa using hx2
    rw [Maps.atKey_del_other (by simpa using this)]
    exact h2.at_ x hx1 z
  · obtain ⟨es, clock, es', clock', hb, rfl⟩ := ht
    simp [ChangeMaps.setBlock]

/-- A new key is laid. -/
theorem MpAt.put {w : World} {b : Nat} {K : List (Int × Nat)} (h : MpAt w b K) (i : Int) (p : Nat) (hi : -9223372036854775808 ≤ i ∧ i ≤ 9223372036854775807) (hx : ∀ x ∈ K, x.1 ≠ i) (hn : K.length < 1000000) :
    ∃ w', (Instr.mapUpdate 60 (.map (some b)) (.int .i64 i) (.pointer (some ⟨p, 0, none⟩))).run Try.prog w = .ok () w' ∧ MpAt w' b (K ++ [(i, p)]) ∧ w.grownBy w' (some b) ∧ w'.heap.size = w.heap.size := by
  obtain ⟨D, h1, h2⟩ := h
  have hwf := wf64 hi.1 hi.2
  have hkey := keyOf_int_mk (P := Try.prog) Try.underlying3 hwf
  obtain ⟨w', hr, ho, ht⟩ := h1.store (d := .lit (.int .i64 (p : Int))) (ps := []) law3 Try.underlying60 (by unfold maxLen; omega) hkey (val := .pointer (some ⟨p, 0, none⟩)) rfl
  have hno : Maps.has D (.int .i64 i) = false := by rw [h2.has i, List.any_eq_false]; intro x hx'; simpa using hx x hx'
  have hsz : Maps.size (D.put (.int .i64 i) (.lit (.int .i64 (p : Int)))) = (K ++ [(i, p)]).length := by
    rw [Maps.size_put (h1.tidy law3), hno, h2.size]; simp
  refine ⟨w', hr, ⟨_, by rw [← hsz]; exact tight ho, ⟨hsz, fun j => ?_, fun x hx' z => ?_, ?_, ?_⟩⟩, ht.grown, ?_⟩
  · rw [List.any_append]
    by_cases hj : j = i
    · subst hj
      rw [Maps.has_put_same h1.isMap (law3.key hkey)]; simp
    · rw [Maps.has_put_other (by simpa using hj), h2.has j]
      have : ((i == j) : Bool) = false := by simp; omega
      simp [this]
  · rcases List.mem_append.1 hx' with hm | hm
    · rw [Maps.atKey_put_other (by simpa using hx x hm)]
      exact h2.at_ x hm z
    · obtain rfl : x = (i, p) := by simpa using hm
      exact Maps.atKey_put_same h1.isMap (law3.key hkey) _ _
  · rw [List.pairwise_append]
    refine ⟨h2.key, by simp, fun x hm y hy => ?_⟩
    obtain rfl : y = (i, p) := by simpa using hy
    exact hx x hm
  · intro x hx'
    rcases List.mem_append.1 hx' with hm | hm
    · exact h2.wf x hm
    · obtain rfl : x = (i, p) := by simpa using hm
      exact hwf
  · obtain ⟨es, clock, es', clock', hb, rfl⟩ := ht
    simp [ChangeMaps.setBlock]

/-- A range over the map is under way in block r: L says whose turn is still to come. -/
def MpR (w : World) (b r : Nat) (K : List (Int × Nat)) (L : Int → Bool) (cnt : Nat) : Prop :=
  ∃ (D : DataW Unit) (left : Lit → Bool), w.ranges Try.prog 3 ptrElem b r K.length D left cnt ∧ Ks D K ∧ ∀ i, left (.int .i64 i) = L i
theorem MpR.owns {w : World} {b r : Nat} {K : List (Int × Nat)} {L : Int → Bool} {cnt : Nat} (h : MpR w b r K L cnt) : MpAt w b K := by
  obtain ⟨D, left, h1, h2, _⟩ := h
  exact ⟨D, h1.owns, h2⟩
theorem MpR.kept {w w' : World} {b r : Nat} {K : List (Int × Nat)} {L : Int → Bool} {cnt : Nat} {row : Option Nat} (h : MpR w b r K L cnt) (hg : w.grownBy w' row) (hb : some b ≠ row) (hr : some r ≠ row) : MpR w' b r K L cnt := by
  obtain ⟨D, left, h1, h2, h3⟩ := h
  exact ⟨D, left, h1.kept hg hb hr, h2, h3⟩
theorem MpR.drew {w : World} {b r : Nat} {K : List (Int × Nat)} {L : Int → Bool} {cnt : Nat} (h : MpR w b r K L cnt) (n : Nat) : MpR (w.drewN n) b r K L cnt :=
  h.kept (row := none) ⟨rfl, rfl, rfl, Nat.le_refl _, fun _ _ _ => rfl⟩ (by simp) (by simp)
theorem MpR.left_eq {w : World} {b r : Nat} {K : List (Int × Nat)} {L : Int → Bool} {cnt : Nat} (h : MpR w b r K L cnt) : w.rangeLeft b r = cnt := by
  obtain ⟨D, left, h1, _⟩ := h
  exact h1.left_eq
theorem MpR.lt {w : World} {b r : Nat} {K : List (Int × Nat)} {L : Int → Bool} {cnt : Nat} (h : MpR w b r K L cnt) : r < w.heap.size := by
  obtain ⟨D, left, h1, _⟩ := h
  exact h1.lt

theorem sameKey_int {a b : Int} (h : (Lit.int .i64 b).wf = true) : (Lit.int .i64 a).sameKey (.int .i64 b) = (a == b) := by
  by_cases e : a = b
  · subst e
    rw [WideAt.sameKey_self (law3.key (keyOf_int_mk (P := Try.prog) Try.underlying3 h))]; simp
  · rw [Maps.sameKey_ne (by simpa using e)]; simp [e]

/-- 'range m'. -/
theorem wpList_range_mp {w : World} {ops : Array Oper} {rest : List Oper} {o : Oper} {a : Act} {Q : Exit → Act → World → Prop} (hg : o.guard = none) (m : Operand) (hop : o.op = Op.range 60 m) (b : Nat) (K : List (Int × Nat))
    (hm : a.eval m = .map (some b)) (hown : MpAt w b K)
    (hK : ∀ w', MpR w' b w.heap.size K (fun i => K.any fun x => x.1 == i) K.length → w.grownBy w' none → w'.heap.size = w.heap.size + 1 → wpList Try.prog ops Q rest (a.put o.dst (.pointer (some ⟨w.heap.size, 0, none⟩))) w') :
    wpList Try.prog ops Q (o :: rest) a w := by
  obtain ⟨D, h1, h2⟩ := hown
  refine wpList_range_own w hg m 60 hop 3 80 law3 Try.underlying60 ptrElem b K.length D hm h1 ?_
  intro w' hr hgr hsz
  exact hK w' ⟨D, _, by rw [← h2.size]; exact h2.size ▸ hr, h2, fun i => h2.has i⟩ hgr hsz

/-- The step. -/
theorem wpList_next_mp {w : World} {ops : Array Oper} {rest : List Oper} {o : Oper} {a : Act} {Q : Exit → Act → World → Prop} (hg : o.guard = none) (it : Operand) (hop : o.op = Op.next it false) (b r : Nat) (K : List (Int × Nat)) (L : Int → Bool) (cnt : Nat)
    (hit : a.eval it = .pointer (some ⟨r, 0, none⟩)) (h : MpR w b r K L cnt)
    (hDone : (∀ i, L i = false) → wpList Try.prog ops Q rest (a.put o.dst (.tuple #[.bool false])) w)
    (hMore : ∀ (x : Int × Nat) (w' : World) (cnt' : Nat), x ∈ K → L x.1 = true → MpR w' b r K (fun j => L j && !(j == x.1)) cnt' → cnt' < cnt → w.grownBy w' (some r) → w'.heap.size = w.heap.size →
      (Instr.entry (.pointer (some ⟨r, 0, none⟩))).run Try.prog w' = .ok (.tuple #[.int .i64 x.1, .pointer (some ⟨x.2, 0, none⟩)]) w' → wpList Try.prog ops Q rest (a.put o.dst (.tuple #[.bool true, .int .i64 x.1, .pointer (some ⟨x.2, 0, none⟩)])) w') :
    wpList Try.prog ops Q (o :: rest) a w := by
  obtain ⟨D, left, h1, h2, h3⟩ := h
  refine wpList_next_ranges (α := Int) (β := Option Nat) w hg it hop 3 law3 ptrElem (Value.int .i64) mkPtr (fun key kl hkey => by obtain ⟨x, rfl, _⟩ := Maps.keyOf_int_inv Try.underlying3 hkey; exact ⟨x, rfl⟩) (fun v y hv => ptrElem_inv hv)
    b r K.length D left cnt hit h1 (fun _ hl => hDone fun i => by rw [← h3]; exact hl _) ?_
  intro x c kl y w' cnt' hkey hlx hc hat hr hlt hgr hsz hen
  obtain ⟨x', ex, rfl, hwf⟩ := Maps.keyOf_int_inv Try.underlying3 hkey
  cases ex
  have hhas : Maps.has D (.int .i64 x) = true := Maps.has_true_of_atKey hat
  rw [h2.has x, List.any_eq_true] at hhas
  obtain ⟨z, hz, hze⟩ := hhas
  have hzx : z.1 = x := by simpa using hze
  subst hzx
  have hy := (hat .nil).symm.trans (h2.at_ z hz .nil)
  obtain ⟨y1, y2⟩ := y
  simp only at hy
  subst hy
  have hv := ptrElem_lit hc
  rw [hv] at hen ⊢
  refine hMore z w' cnt' hz (by rw [← h3]; exact hlx) ⟨D, _, hr, h2, fun i => ?_⟩ hlt hgr hsz hen
  rw [h3 i, sameKey_int hwf]

end Go.Proofs.Ytjcmmigbkhiplaa
