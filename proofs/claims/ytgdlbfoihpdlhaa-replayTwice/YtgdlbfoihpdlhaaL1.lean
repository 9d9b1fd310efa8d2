/- Records as plain data; what stands in a sector; a log read and written, as plain lists. No function of the program is called here. -/
import Derived.Test.YtgdlbfoihpdlhaaR2
import Derived.Test.YtgdlbfoihpdlhaaR3
import Derived.Test.YtgdlbfoihpdlhaaR4
import Derived.Test.YtgdlbfoihpdlhaaRA
import Derived.Test.YtgdlbfoihpdlhaaIter
import Derived.Shelf.Abstract
set_option linter.unusedSimpArgs false
set_option linter.unusedVariables false
namespace Go.Proofs.Ytgdlbfoihpdlhaa
open Go.RowKit Go.Attic Go.Shelf

structure Rc where
  k : Int
  b : Int
  o : Int
  m : Int
  l : List Nat

/-- A record that may be. -/
def okRc (r : Rc) : Prop := okR r.k r.b r.o r.m r.l.length


def Rc.cells (r : Rc) (v : Value) : List Value := [.int .i64 r.k, .int .i64 r.b, .int .i64 r.o, v, .int .i64 r.m]
def cellsR (rs : List Rc) (vs : List Value) : List Value := (rs.zip vs).flatMap fun x => x.1.cells x.2

/-- A record's cells stand at a place. -/
structure RcAt (w : World) (b off : Nat) (r : Rc) (v : Value) : Prop where
  c0 : w.cell? ⟨b, off, none⟩ = some (.int .i64 r.k)
  c1 : w.cell? ⟨b, off + 1, none⟩ = some (.int .i64 r.b)
  c2 : w.cell? ⟨b, off + 2, none⟩ = some (.int .i64 r.o)
  c3 : w.cell? ⟨b, off + 3, none⟩ = some v
  c4 : w.cell? ⟨b, off + 4, none⟩ = some (.int .i64 r.m)

theorem RcAt.keeps {S : Nat → Prop} {w w' : World} {b off : Nat} {r : Rc} {v : Value} (h : RcAt w b off r v) (hk : Keeps S w w') (hb : ¬ S b) : RcAt w' b off r v :=
  ⟨hk.cell h.c0 hb, hk.cell h.c1 hb, hk.cell h.c2 hb, hk.cell h.c3 hb, hk.cell h.c4 hb⟩

theorem keeps_bs {S : Nat → Prop} {w w' : World} (h : Keeps S w w') {v : Value} {l : List Nat} (hb : Bs w v l) (hv : 0 < l.length → ∀ b, v.ownBlock = some b → ¬ S b) : Bs w' v l := by
  obtain ⟨ao, cap, rfl, h1, h2, h3, h4⟩ := hb
  refine ⟨ao, cap, rfl, h1, h2, h3, fun hp => ?_⟩
  obtain ⟨b, off, rfl, hc⟩ := h4 hp
  exact ⟨b, off, rfl, fun i hi => h.cell (hc i hi) (hv hp b rfl)⟩

/-- The slice v holds the records rs; what is read for it lies in F. -/
def Rs (w : World) (F : Nat → Prop) (v : Value) (rs : List Rc) : Prop :=
  ∃ (ao : Option Addr) (cap : Nat) (vs : List Value), v = .slice ao rs.length cap ∧ rs.length ≤ cap ∧ vs.length = rs.length ∧
    (0 < rs.length → ∃ b off, ao = some ⟨b, off, none⟩ ∧ F b ∧ ∀ i (hi : i < rs.length) (hv : i < vs.length), RcAt w b (off + i * 5) rs[i] vs[i]) ∧
    ∀ i (hi : i < rs.length) (hv : i < vs.length), Bs w vs[i] (rs[i]).l ∧ (0 < (rs[i]).l.length → ∀ k, vs[i].ownBlock = some k → F k)

theorem Rs.nil (w : World) (F : Nat → Prop) : Rs w F (.slice none 0 0) [] := ⟨none, 0, [], rfl, Nat.le_refl _, rfl, by simp, by simp⟩
theorem Rs.keeps {S F : Nat → Prop} {w w' : World} {v : Value} {rs : List Rc} (h : Rs w F v rs) (hk : Keeps S w w') (hS : ∀ k, F k → ¬ S k) : Rs w' F v rs := by
  obtain ⟨ao, cap, vs, rfl, h1, h2, h3, h4⟩ := h
  refine ⟨ao, cap, vs, rfl, h1, h2, fun hp => ?_, fun i hi hv => ⟨keeps_bs hk (h4 i hi hv).1 (fun hp b hb => hS b ((h4 i hi hv).2 hp b hb)), (h4 i hi hv).2⟩⟩
  obtain ⟨b, off, e, hF, hc⟩ := h3 hp
  exact ⟨b, off, e, hF, fun i hi hv => (hc i hi hv).keeps hk (hS b hF)⟩
theorem Rs.mono {F : Nat → Prop} {w w' : World} {v : Value} {rs : List Rc} (h : Rs w F v rs) (hb : Below w.heap.size w w') : Rs w' F v rs :=
  h.keeps (S := fun _ => False) (Keeps.of_below hb) (fun _ _ => id)
theorem Rs.widen {F F' : Nat → Prop} {w : World} {v : Value} {rs : List Rc} (h : Rs w F v rs) (hF : ∀ k, F k → F' k) : Rs w F' v rs := by
  obtain ⟨ao, cap, vs, rfl, h1, h2, h3, h4⟩ := h
  refine ⟨ao, cap, vs, rfl, h1, h2, fun hp => ?_, fun i hi hv => ⟨(h4 i hi hv).1, fun hp k hk => hF k ((h4 i hi hv).2 hp k hk)⟩⟩
  obtain ⟨b, off, e, hFb, hc⟩ := h3 hp
  exact ⟨b, off, e, hF b hFb, hc⟩
theorem Rs.slice {F : Nat → Prop} {w : World} {v : Value} {rs : List Rc} (h : Rs w F v rs) : ∃ ao cap, v = .slice ao rs.length cap ∧ rs.length ≤ cap := by
  obtain ⟨ao, cap, vs, rfl, h1, h2, h3, h4⟩ := h
  exact ⟨ao, cap, rfl, h1⟩
/-- One of its records. -/
theorem Rs.at {F : Nat → Prop} {w : World} {ao : Option Addr} {n cap : Nat} {rs : List Rc} (h : Rs w F (.slice ao n cap) rs) (i : Nat) (hi : i < rs.length) :
    n = rs.length ∧ ∃ b off u, ao = some ⟨b, off, none⟩ ∧ F b ∧ RcAt w b (off + i * 5) rs[i] u ∧ Bs w u (rs[i]).l ∧ (0 < (rs[i]).l.length → ∀ k, u.ownBlock = some k → F k) := by
  obtain ⟨ao', cap', vs, e, h1, h2, h3, h4⟩ := h
  injection e with e1 e2 e3
  subst e1 e2 e3
  obtain ⟨b, off, e, hF, hc⟩ := h3 (by omega)
  exact ⟨rfl, b, off, vs[i]'(by omega), e, hF, hc i hi _, h4 i hi _⟩

theorem cellsR_length (rs : List Rc) (vs : List Value) (h : vs.length = rs.length) : (cellsR rs vs).length = rs.length * 5 := by
  induction rs generalizing vs with
  | nil => simp [cellsR]
  | cons r rs ih =>
    cases vs with
    | nil => simp at h
    | cons v vs =>
      have := ih vs (by simpa using h)
      simp only [cellsR, List.zip_cons_cons, List.flatMap_cons, List.length_append, Rc.cells, List.length_cons, List.length_nil] at this ⊢
      omega
theorem cellsR_at {rs : List Rc} {vs : List Value} (hl : vs.length = rs.length) (i : Nat) (hi : i < rs.length) (j : Nat) (hj : j < 5) :
    (cellsR rs vs)[i * 5 + j]? = ((rs[i]).cells (vs[i]'(by omega)))[j]? := by
  induction rs generalizing vs i with
  | nil => simp at hi
  | cons r rs ih =>
    cases vs with
    | nil => simp at hl
    | cons v vs =>
      have e : cellsR (r :: rs) (v :: vs) = r.cells v ++ cellsR rs vs := by simp [cellsR]
      rw [e]
      cases i with
      | zero => rw [List.getElem?_append_left (by simp [Rc.cells]; omega)]; simp
      | succ i =>
        rw [List.getElem?_append_right (by simp [Rc.cells]; omega)]
        have := ih (vs := vs) (by simpa using hl) i (by simpa using hi)
        simp only [List.getElem_cons_succ]
        rw [← this]
        congr 1
        simp [Rc.cells]; omega
theorem cellsR_snoc (rs : List Rc) (vs : List Value) (r : Rc) (v : Value) (h : vs.length = rs.length) : cellsR (rs ++ [r]) (vs ++ [v]) = cellsR rs vs ++ r.cells v := by
  simp [cellsR, List.zip_append h.symm]
theorem cellsR_app (rs rs' : List Rc) (vs vs' : List Value) (h : vs.length = rs.length) : cellsR (rs ++ rs') (vs ++ vs') = cellsR rs vs ++ cellsR rs' vs' := by
  simp [cellsR, List.zip_append h.symm]
theorem cellsR_one (rs : List Rc) (vs : List Value) (h : ∀ v ∈ vs, ∃ ao n c, v = .slice ao n c) : ∀ u ∈ cellsR rs vs, u.oneCell' = true := by
  intro u hu
  simp only [cellsR, List.mem_flatMap] at hu
  obtain ⟨⟨r, v⟩, hm, hu⟩ := hu
  obtain ⟨ao, n, c, e⟩ := h v (List.of_mem_zip hm).2
  simp only [Rc.cells, e, List.mem_cons, List.not_mem_nil, or_false] at hu
  rcases hu with rfl | rfl | rfl | rfl | rfl <;> rfl

/-- A row of records that is one's own: its block is p, what it reads lies in F. -/
structure Rw (w : World) (p : Option Nat) (F : Nat → Prop) (v : Value) (rs : List Rc) (vs : List Value) : Prop where
  row : w.ownsRow 0 48 5 v rs.length (cellsR rs vs)
  own : v.ownBlock = p
  len : vs.length = rs.length
  pF : ∀ b, p = some b → F b
  bs : ∀ i (hi : i < rs.length) (hv : i < vs.length), Bs w vs[i] (rs[i]).l ∧ (0 < (rs[i]).l.length → ∀ b, vs[i].ownBlock = some b → F b ∧ p ≠ some b)

theorem Rw.nil (w : World) (F : Nat → Prop) : Rw w none F (.slice none 0 0) [] [] := ⟨World.ownsRow_nil _ _ _ _, rfl, rfl, by simp, by simp⟩
theorem Rw.keeps {w w' : World} {p : Option Nat} {F S : Nat → Prop} {v : Value} {rs : List Rc} {vs : List Value} (h : Rw w p F v rs vs) (hk : Keeps S w w') (hS : ∀ k, F k → ¬ S k) : Rw w' p F v rs vs :=
  ⟨hk.owns h.row (fun b hb => hS b (h.pF b (h.own ▸ hb))), h.own, h.len, h.pF, fun i hi hv => ⟨keeps_bs hk (h.bs i hi hv).1 (fun hp b hb => hS b ((h.bs i hi hv).2 hp b hb).1), (h.bs i hi hv).2⟩⟩
theorem Rw.mono {w w' : World} {p : Option Nat} {F : Nat → Prop} {v : Value} {rs : List Rc} {vs : List Value} (h : Rw w p F v rs vs) (hb : Below w.heap.size w w') : Rw w' p F v rs vs :=
  h.keeps (S := fun _ => False) (Keeps.of_below hb) (fun _ _ => id)
theorem Rw.widen {w : World} {p : Option Nat} {F F' : Nat → Prop} {v : Value} {rs : List Rc} {vs : List Value} (h : Rw w p F v rs vs) (hF : ∀ k, F k → F' k) : Rw w p F' v rs vs :=
  ⟨h.row, h.own, h.len, fun b hb => hF b (h.pF b hb), fun i hi hv => ⟨(h.bs i hi hv).1, fun hp b hb => ⟨hF b ((h.bs i hi hv).2 hp b hb).1, ((h.bs i hi hv).2 hp b hb).2⟩⟩⟩
theorem Rw.slices {w : World} {p : Option Nat} {F : Nat → Prop} {v : Value} {rs : List Rc} {vs : List Value} (h : Rw w p F v rs vs) : ∀ u ∈ vs, ∃ ao n c, u = .slice ao n c := by
  intro u hu
  obtain ⟨i, hi, rfl⟩ := List.getElem_of_mem hu
  obtain ⟨ao, cap, e, _⟩ := (h.bs i (by have := h.len; omega) hi).1
  exact ⟨ao, _, cap, e⟩
theorem Rw.rs {w : World} {p : Option Nat} {F : Nat → Prop} {v : Value} {rs : List Rc} {vs : List Value} (h : Rw w p F v rs vs) : Rs w F v rs := by
  obtain ⟨ao, cap, e, hc, hg⟩ := owns_form h.row
  refine ⟨ao, cap, vs, e, hc, h.len, fun hp => ?_, fun i hi hv => ⟨(h.bs i hi hv).1, fun hp k hk => ((h.bs i hi hv).2 hp k hk).1⟩⟩
  obtain ⟨b, rfl, _⟩ := hg hp
  subst e
  refine ⟨b, 0, rfl, h.pF b (h.own ▸ rfl), fun i hi hv => ?_⟩
  have key : ∀ j u (hj : j < 5), ((rs[i]).cells (vs[i]))[j]? = some u → w.cell? ⟨b, 0 + i * 5 + j, none⟩ = some u := by
    intro j u hj hu
    have := h.row.cells (g := b) rfl _ _ ((cellsR_at h.len i hi j hj).trans hu)
    rw [Addr.add_lit] at this
    rw [Nat.add_assoc]; exact this
  exact ⟨key 0 _ (by omega) rfl, key 1 _ (by omega) rfl, key 2 _ (by omega) rfl, key 3 _ (by omega) rfl, key 4 _ (by omega) rfl⟩

theorem cell_five_new (w : World) (x0 x1 x2 x3 x4 : Value) (t : TypeId) : ∀ j u, [x0, x1, x2, x3, x4][j]? = some u → (w.alloc (.cells #[x0, x1, x2, x3, x4] t)).cell? ((⟨w.heap.size, 0, none⟩ : Addr).add j) = some u := by
  intro j u h
  rw [Addr.add_lit, Nat.zero_add]
  have hb : (w.alloc (.cells #[x0, x1, x2, x3, x4] t)).heap[w.heap.size]? = some (.cells #[x0, x1, x2, x3, x4] t (0, 0)) := World.alloc_heap_new w _
  match j, h with
  | 0, h => injection h with h; subst h; unfold World.cell?; rw [hb]; rfl
  | 1, h => injection h with h; subst h; unfold World.cell?; rw [hb]; rfl
  | 2, h => injection h with h; subst h; unfold World.cell?; rw [hb]; rfl
  | 3, h => injection h with h; subst h; unfold World.cell?; rw [hb]; rfl
  | 4, h => injection h with h; subst h; unfold World.cell?; rw [hb]; rfl
  | j + 5, h => simp at h

theorem Try.info48 : (Try.prog.info? 48).map (fun i => (i.zero, i.size, i.bytes)) = some (some (.agg #[.int .i64 0, .int .i64 0, .int .i64 0, .slice none 0 0, .int .i64 0]), 5, 56) := by kernel_rfl

/-- One record more. -/
theorem Rw.snoc {w w2 : World} {p : Option Nat} {F : Nat → Prop} {v v' u : Value} {rs : List Rc} {vs : List Value} {r : Rc} (h : Rw w p F v rs vs) (hF : ∀ k, F k → k < w.heap.size) (hk : Keeps (fun k => p = some k) w w2)
    (ho : w2.ownsRow 0 48 5 v' (rs.length + 1) (cellsR rs vs ++ r.cells u)) (hkin : ∀ k, v'.ownBlock = some k → p = some k ∨ w.heap.size ≤ k) (hu : Bs w2 u r.l) (hup : 0 < r.l.length → ∀ k, u.ownBlock = some k → v'.ownBlock ≠ some k) :
    Rw w2 v'.ownBlock (fun k => F k ∨ v'.ownBlock = some k ∨ u.ownBlock = some k) v' (rs ++ [r]) (vs ++ [u]) := by
  refine ⟨by rw [cellsR_snoc _ _ _ _ h.len]; simpa using ho, rfl, by simp [h.len], fun b hb => .inr (.inl hb), ?_⟩
  intro i hi hv
  simp at hi hv
  by_cases hil : i < rs.length
  · have h1 : i < vs.length := by have := h.len; omega
    obtain ⟨q1, q2⟩ := h.bs i hil h1
    simp only [List.getElem_append_left hil, List.getElem_append_left h1]
    refine ⟨keeps_bs hk q1 (fun hp b hb => (q2 hp b hb).2), fun hp b hb => ⟨.inl (q2 hp b hb).1, fun e => ?_⟩⟩
    rcases hkin b e with h2 | h2
    · exact (q2 hp b hb).2 h2
    · have := hF b (q2 hp b hb).1; omega
  · have e1 : i = rs.length := by omega
    subst e1
    have e2 : rs.length = vs.length := h.len.symm
    have g1 : (rs ++ [r])[rs.length]'(by simp) = r := by simp
    have g2 : (vs ++ [u])[rs.length]'(by simp [e2]) = u := by simp [e2]
    rw [g1, g2]
    exact ⟨hu, fun hp b hb => ⟨.inr (.inr hb), hup hp b hb⟩⟩


theorem RcAt.held {w : World} {b off : Nat} {r : Rc} {v : Value} (h : RcAt w b off r v) : w.cell? ⟨b, off, none⟩ = some (.int .i64 r.k) ∧ w.cell? ⟨b, off + 1, none⟩ = some (.int .i64 r.b) ∧ w.cell? ⟨b, off + 2, none⟩ = some (.int .i64 r.o) ∧ w.cell? ⟨b, off + 3, none⟩ = some v ∧ w.cell? ⟨b, off + 4, none⟩ = some (.int .i64 r.m) := ⟨h.c0, h.c1, h.c2, h.c3, h.c4⟩
theorem RcAt.mono {w w' : World} {b off : Nat} {r : Rc} {v : Value} (h : RcAt w b off r v) (hb : Below w.heap.size w w') : RcAt w' b off r v := h.keeps (S := fun _ => False) (Keeps.of_below hb) id


end Go.Proofs.Ytgdlbfoihpdlhaa
