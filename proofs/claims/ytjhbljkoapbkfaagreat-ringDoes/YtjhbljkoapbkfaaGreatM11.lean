/- Rows of records in memory. A ring in memory; contracts of its small functions: isMade, isSize, isHead, lap, block, sector, Head, Tail, Room, Lap. The document's ring in memory (Wk); contracts of its small functions: place, Lap, Tail, Room, Trim. -/
import Derived.Test.YtjhbljkoapbkfaaGreatM10
set_option linter.unusedSimpArgs false
set_option linter.unusedVariables false

namespace Go.Proofs.YtjhbljkoapbkfaaGreat
open Go.RowKit Go.Attic Go.Shelf

def Rc.cells (r : Rc) (v : Value) : List Value := [.int .i64 r.k, .int .i64 r.b, .int .i64 r.o, v, .int .i64 r.m]
def cellsR (rs : List Rc) (vs : List Value) : List Value := (rs.zip vs).flatMap fun x => x.1.cells x.2

/-- A record's cells stand at a place. -/
structure RcAt (w : World) (b off : Nat) (r : Rc) (v : Value) : Prop where
  c0 : w.cell? ⟨b, off, none⟩ = some (.int .i64 r.k)
  c1 : w.cell? ⟨b, off + 1, none⟩ = some (.int .i64 r.b)
  c2 : w.cell? ⟨b, off + 2, none⟩ = some (.int .i64 r.o)
  c3 : w.cell? ⟨b, off + 3, none⟩ = some v
  c4 : w.cell? ⟨b, off + 4, none⟩ = some (.int .i64 r.m)

theorem RcAt.keeps {S : Nat → Prop} {w w' : World} {b off : Nat} {r : Rc} {v : Value} (h : RcAt w b off r v) (hk : Keeps S w w') (hb : ¬ S b) : RcAt w' b off r v :=
  ⟨hk.cell h.c0 hb, hk.cell h.c1 hb, hk.cell h.c2 hb, hk.cell h.c3 hb, hk.cell h.c4 hb⟩

theorem keeps_bs {S : Nat → Prop} {w w' : World} (h : Keeps S w w') {v : Value} {l : List Nat} (hb : Bs w v l) (hv : 0 < l.length → ∀ b, v.ownBlock = some b → ¬ S b) : Bs w' v l := by
  obtain ⟨ao, cap, rfl, h1, h2, h3, h4⟩ := hb
  refine ⟨ao, cap, rfl, h1, h2, h3, fun hp => ?_⟩
  obtain ⟨b, off, rfl, hc⟩ := h4 hp
  exact ⟨b, off, rfl, fun i hi => h.cell (hc i hi) (hv hp b rfl)⟩

/-- The slice v holds the records rs; what is read for it lies in F. -/
def Rs (w : World) (F : Nat → Prop) (v : Value) (rs : List Rc) : Prop :=
  ∃ (ao : Option Addr) (cap : Nat) (vs : List Value), v = .slice ao rs.length cap ∧ rs.length ≤ cap ∧ vs.length = rs.length ∧
    (0 < rs.length → ∃ b off, ao = some ⟨b, off, none⟩ ∧ F b ∧ ∀ i (hi : i < rs.length) (hv : i < vs.length), RcAt w b (off + i * 5) rs[i] vs[i]) ∧
    ∀ i (hi : i < rs.length) (hv : i < vs.length), Bs w vs[i] (rs[i]).l ∧ (0 < (rs[i]).l.length → ∀ k, vs[i].ownBlock = some k → F k)

theorem Rs.nil (w : World) (F : Nat → Prop) : Rs w F (.slice none 0 0) [] := ⟨none, 0, [], rfl, Nat.le_refl _, rfl, by simp, by simp⟩
theorem Rs.keeps {S F : Nat → Prop} {w w' : World} {v : Value} {rs : List Rc} (h : Rs w F v rs) (hk : Keeps S w w') (hS : ∀ k, F k → ¬ S k) : Rs w' F v rs := by
  obtain ⟨ao, cap, vs, rfl, h1, h2, h3, h4⟩ := h
  refine ⟨ao, cap, vs, rfl, h1, h2, fun hp => ?_, fun i hi hv => ⟨keeps_bs hk (h4 i hi hv).1 (fun hp b hb => hS b ((h4 i hi hv).2 hp b hb)), (h4 i hi hv).2⟩⟩
  obtain ⟨b, off, e, hF, hc⟩ := h3 hp
  exact ⟨b, off, e, hF, fun i hi hv => (hc i hi hv).keeps hk (hS b hF)⟩
theorem Rs.mono {F : Nat → Prop} {w w' : World} {v : Value} {rs : List Rc} (h : Rs w F v rs) (hb : Below w.heap.size w w') : Rs w' F v rs :=
  h.keeps (S := fun _ => False) (Keeps.of_below hb) (fun _ _ => id)
theorem Rs.widen {F F' : Nat → Prop} {w : World} {v : Value} {rs : List Rc} (h : Rs w F v rs) (hF : ∀ k, F k → F' k) : Rs w F' v rs := by
  obtain ⟨ao, cap, vs, rfl, h1, h2, h3, h4⟩ := h
  refine ⟨ao, cap, vs, rfl, h1, h2, fun hp => ?_, fun i hi hv => ⟨(h4 i hi hv).1, fun hp k hk => hF k ((h4 i hi hv).2 hp k hk)⟩⟩
  obtain ⟨b, off, e, hFb, hc⟩ := h3 hp
  exact ⟨b, off, e, hF b hFb, hc⟩
theorem Rs.slice {F : Nat → Prop} {w : World} {v : Value} {rs : List Rc} (h : Rs w F v rs) : ∃ ao cap, v = .slice ao rs.length cap ∧ rs.length ≤ cap := by
  obtain ⟨ao, cap, vs, rfl, h1, h2, h3, h4⟩ := h
  exact ⟨ao, cap, rfl, h1⟩
/-- One of its records. -/
theorem Rs.at {F : Nat → Prop} {w : World} {ao : Option Addr} {n cap : Nat} {rs : List Rc} (h : Rs w F (.slice ao n cap) rs) (i : Nat) (hi : i < rs.length) :
    n = rs.length ∧ ∃ b off u, ao = some ⟨b, off, none⟩ ∧ F b ∧ RcAt w b (off + i * 5) rs[i] u ∧ Bs w u (rs[i]).l ∧ (0 < (rs[i]).l.length → ∀ k, u.ownBlock = some k → F k) := by
  obtain ⟨ao', cap', vs, e, h1, h2, h3, h4⟩ := h
  injection e with e1 e2 e3
  subst e1 e2 e3
  obtain ⟨b, off, e, hF, hc⟩ := h3 (by omega)
  exact ⟨rfl, b, off, vs[i]'(by omega), e, hF, hc i hi _, h4 i hi _⟩

theorem cellsR_length (rs : List Rc) (vs : List Value) (h : vs.length = rs.length) : (cellsR rs vs).length = rs.length * 5 := by
  induction rs generalizing vs with
  | nil => simp [cellsR]
  | cons r rs ih =>
    cases vs with
    | nil => simp at h
    | cons v vs =>
      have := ih vs (by simpa using h)
      simp only [cellsR, List.zip_cons_cons, List.flatMap_cons, List.length_append, Rc.cells, List.length_cons, List.length_nil] at this ⊢
      omega
theorem cellsR_at {rs : List Rc} {vs : List Value} (hl : vs.length = rs.length) (i : Nat) (hi : i < rs.length) (j : Nat) (hj : j < 5) :
    (cellsR rs vs)[i * 5 + j]? = ((rs[i]).cells (vs[i]'(by omega)))[j]? := by
  induction rs generalizing vs i with
  | nil => simp at hi
  | cons r rs ih =>
    cases vs with
    | nil => simp at hl
    | cons v vs =>
      have e : cellsR (r :: rs) (v :: vs) = r.cells v ++ cellsR rs vs := by simp [cellsR]
      rw [e]
      cases i with
      | zero => rw [List.getElem?_append_left (by simp [Rc.cells]; omega)]; simp
      | succ i =>
        rw [List.getElem?_append_right (by simp [Rc.cells]; omega)]
        have := ih (vs := vs) (by simpa using hl) i (by simpa using hi)
        simp only [List.getElem_cons_succ]
        rw [← this]
        congr 1
        simp [Rc.cells]; omega
theorem cellsR_snoc (rs : List Rc) (vs : List Value) (r : Rc) (v : Value) (h : vs.length = rs.length) : cellsR (rs ++ [r]) (vs ++ [v]) = cellsR rs vs ++ r.cells v := by
  simp [cellsR, List.zip_append h.symm]
theorem cellsR_app (rs rs' : List Rc) (vs vs' : List Value) (h : vs.length = rs.length) : cellsR (rs ++ rs') (vs ++ vs') = cellsR rs vs ++ cellsR rs' vs' := by
  simp [cellsR, List.zip_append h.symm]
theorem cellsR_one (rs : List Rc) (vs : List Value) (h : ∀ v ∈ vs, ∃ ao n c, v = .slice ao n c) : ∀ u ∈ cellsR rs vs, u.oneCell' = true := by
  intro u hu
  simp only [cellsR, List.mem_flatMap] at hu
  obtain ⟨⟨r, v⟩, hm, hu⟩ := hu
  obtain ⟨ao, n, c, e⟩ := h v (List.of_mem_zip hm).2
  simp only [Rc.cells, e, List.mem_cons, List.not_mem_nil, or_false] at hu
  rcases hu with rfl | rfl | rfl | rfl | rfl <;> rfl

/-- A row of records that is one's own: its block is p, what it reads lies in F. -/
structure Rw (w : World) (p : Option Nat) (F : Nat → Prop) (v : Value) (rs : List Rc) (vs : List Value) : Prop where
  row : w.ownsRow 0 52 5 v rs.length (cellsR rs vs)
  own : v.ownBlock = p
  len : vs.length = rs.length
  pF : ∀ b, p = some b → F b
  bs : ∀ i (hi : i < rs.length) (hv : i < vs.length), Bs w vs[i] (rs[i]).l ∧ (0 < (rs[i]).l.length → ∀ b, vs[i].ownBlock = some b → F b ∧ p ≠ some b)

theorem Rw.nil (w : World) (F : Nat → Prop) : Rw w none F (.slice none 0 0) [] [] := ⟨World.ownsRow_nil _ _ _ _, rfl, rfl, by simp, by simp⟩
theorem Rw.keeps {w w' : World} {p : Option Nat} {F S : Nat → Prop} {v : Value} {rs : List Rc} {vs : List Value} (h : Rw w p F v rs vs) (hk : Keeps S w w') (hS : ∀ k, F k → ¬ S k) : Rw w' p F v rs vs :=
  ⟨hk.owns h.row (fun b hb => hS b (h.pF b (h.own ▸ hb))), h.own, h.len, h.pF, fun i hi hv => ⟨keeps_bs hk (h.bs i hi hv).1 (fun hp b hb => hS b ((h.bs i hi hv).2 hp b hb).1), (h.bs i hi hv).2⟩⟩
theorem Rw.mono {w w' : World} {p : Option Nat} {F : Nat → Prop} {v : Value} {rs : List Rc} {vs : List Value} (h : Rw w p F v rs vs) (hb : Below w.heap.size w w') : Rw w' p F v rs vs :=
  h.keeps (S := fun _ => False) (Keeps.of_below hb) (fun _ _ => id)
theorem Rw.widen {w : World} {p : Option Nat} {F F' : Nat → Prop} {v : Value} {rs : List Rc} {vs : List Value} (h : Rw w p F v rs vs) (hF : ∀ k, F k → F' k) : Rw w p F' v rs vs :=
  ⟨h.row, h.own, h.len, fun b hb => hF b (h.pF b hb), fun i hi hv => ⟨(h.bs i hi hv).1, fun hp b hb => ⟨hF b ((h.bs i hi hv).2 hp b hb).1, ((h.bs i hi hv).2 hp b hb).2⟩⟩⟩
theorem Rw.slices {w : World} {p : Option Nat} {F : Nat → Prop} {v : Value} {rs : List Rc} {vs : List Value} (h : Rw w p F v rs vs) : ∀ u ∈ vs, ∃ ao n c, u = .slice ao n c := by
  intro u hu
  obtain ⟨i, hi, rfl⟩ := List.getElem_of_mem hu
  obtain ⟨ao, cap, e, _⟩ := (h.bs i (by have := h.len; omega) hi).1
  exact ⟨ao, _, cap, e⟩
theorem Rw.rs {w : World} {p : Option Nat} {F : Nat → Prop} {v : Value} {rs : List Rc} {vs : List Value} (h : Rw w p F v rs vs) : Rs w F v rs := by
  obtain ⟨ao, cap, e, hc, hg⟩ := owns_form h.row
  refine ⟨ao, cap, vs, e, hc, h.len, fun hp => ?_, fun i hi hv => ⟨(h.bs i hi hv).1, fun hp k hk => ((h.bs i hi hv).2 hp k hk).1⟩⟩
  obtain ⟨b, rfl, _⟩ := hg hp
  subst e
  refine ⟨b, 0, rfl, h.pF b (h.own ▸ rfl), fun i hi hv => ?_⟩
  have key : ∀ j u (hj : j < 5), ((rs[i]).cells (vs[i]))[j]? = some u → w.cell? ⟨b, 0 + i * 5 + j, none⟩ = some u := by
    intro j u hj hu
    have := h.row.cells (g := b) rfl _ _ ((cellsR_at h.len i hi j hj).trans hu)
    rw [Addr.add_lit] at this
    rw [Nat.add_assoc]; exact this
  exact ⟨key 0 _ (by omega) rfl, key 1 _ (by omega) rfl, key 2 _ (by omega) rfl, key 3 _ (by omega) rfl, key 4 _ (by omega) rfl⟩

theorem cell_five_new (w : World) (x0 x1 x2 x3 x4 : Value) (t : TypeId) : ∀ j u, [x0, x1, x2, x3, x4][j]? = some u → (w.alloc (.cells #[x0, x1, x2, x3, x4] t)).cell? ((⟨w.heap.size, 0, none⟩ : Addr).add j) = some u := by
  intro j u h
  rw [Addr.add_lit, Nat.zero_add]
  have hb : (w.alloc (.cells #[x0, x1, x2, x3, x4] t)).heap[w.heap.size]? = some (.cells #[x0, x1, x2, x3, x4] t (0, 0)) := World.alloc_heap_new w _
  match j, h with
  | 0, h => injection h with h; subst h; unfold World.cell?; rw [hb]; rfl
  | 1, h => injection h with h; subst h; unfold World.cell?; rw [hb]; rfl
  | 2, h => injection h with h; subst h; unfold World.cell?; rw [hb]; rfl
  | 3, h => injection h with h; subst h; unfold World.cell?; rw [hb]; rfl
  | 4, h => injection h with h; subst h; unfold World.cell?; rw [hb]; rfl
  | j + 5, h => simp at h

theorem Tryz.info52 : (Tryz.prog.info? 52).map (fun i => (i.zero, i.size, i.bytes)) = some (some (.agg #[.int .i64 0, .int .i64 0, .int .i64 0, .slice none 0 0, .int .i64 0]), 5, 56) := by kernel_rfl

/-- One record more. -/
theorem Rw.snoc {w w2 : World} {p : Option Nat} {F : Nat → Prop} {v v' u : Value} {rs : List Rc} {vs : List Value} {r : Rc} (h : Rw w p F v rs vs) (hF : ∀ k, F k → k < w.heap.size) (hk : Keeps (fun k => p = some k) w w2)
    (ho : w2.ownsRow 0 52 5 v' (rs.length + 1) (cellsR rs vs ++ r.cells u)) (hkin : ∀ k, v'.ownBlock = some k → p = some k ∨ w.heap.size ≤ k) (hu : Bs w2 u r.l) (hup : 0 < r.l.length → ∀ k, u.ownBlock = some k → v'.ownBlock ≠ some k) :
    Rw w2 v'.ownBlock (fun k => F k ∨ v'.ownBlock = some k ∨ u.ownBlock = some k) v' (rs ++ [r]) (vs ++ [u]) := by
  refine ⟨by rw [cellsR_snoc _ _ _ _ h.len]; simpa using ho, rfl, by simp [h.len], fun b hb => .inr (.inl hb), ?_⟩
  intro i hi hv
  simp at hi hv
  by_cases hil : i < rs.length
  · have h1 : i < vs.length := by have := h.len; omega
    obtain ⟨q1, q2⟩ := h.bs i hil h1
    simp only [List.getElem_append_left hil, List.getElem_append_left h1]
    refine ⟨keeps_bs hk q1 (fun hp b hb => (q2 hp b hb).2), fun hp b hb => ⟨.inl (q2 hp b hb).1, fun e => ?_⟩⟩
    rcases hkin b e with h2 | h2
    · exact (q2 hp b hb).2 h2
    · have := hF b (q2 hp b hb).1; omega
  · have e1 : i = rs.length := by omega
    subst e1
    have e2 : rs.length = vs.length := h.len.symm
    have g1 : (rs ++ [r])[rs.length]'(by simp) = r := by simp
    have g2 : (vs ++ [u])[rs.length]'(by simp [e2]) = u := by simp [e2]
    rw [g1, g2]
    exact ⟨hu, fun hp b hb => ⟨.inr (.inr hb), hup hp b hb⟩⟩


end Go.Proofs.YtjhbljkoapbkfaaGreat

namespace Go.Proofs.YtjhbljkoapbkfaaGreat
open Go.RowKit Go.Attic Go.Shelf

/-- A ring stands in block r, over the disk in block g; what it reads lies in F. -/
structure Rk (w : World) (r g base blocks head : Nat) (F : Nat → Prop) (rs : List Rc) : Prop where
  c0 : w.cell? ⟨r, 0, none⟩ = some (.pointer (some ⟨g, 0, none⟩))
  c1 : w.cell? ⟨r, 1, none⟩ = some (.int .i64 (base : Int))
  c2 : w.cell? ⟨r, 2, none⟩ = some (.int .i64 (blocks : Int))
  c3 : w.cell? ⟨r, 3, none⟩ = some (.int .i64 (head : Int))
  c4 : ∃ p v vs, w.cell? ⟨r, 4, none⟩ = some v ∧ Rw w p F v rs vs
  f3 : w.frozen? ⟨r, 3, none⟩ = false
  f4 : w.frozen? ⟨r, 4, none⟩ = false
  Fr : ¬ F r
  Fl : ∀ k, F k → k < w.heap.size
  b1 : 1 ≤ blocks
  b2 : blocks ≤ 256
  b3 : base ≤ 2048
  hd : head ≤ 1152921504606846976
  ln : rs.length ≤ 4 * blocks
  ok : ∀ x ∈ rs, okRc x

theorem Rk.rl {w : World} {r g base blocks head : Nat} {F : Nat → Prop} {rs : List Rc} (h : Rk w r g base blocks head F rs) : r < w.heap.size := by
  have := World.block_lt_of_cell? w _ h.c0; simpa using this
theorem Rk.keeps {w w' : World} {r g base blocks head : Nat} {F S : Nat → Prop} {rs : List Rc} (h : Rk w r g base blocks head F rs) (hk : Keeps S w w') (hr : ¬ S r) (hS : ∀ k, F k → ¬ S k) : Rk w' r g base blocks head F rs := by
  obtain ⟨p, v, vs, a1, a2⟩ := h.c4
  have hl := h.rl
  exact ⟨hk.cell h.c0 hr, hk.cell h.c1 hr, hk.cell h.c2 hr, hk.cell h.c3 hr, ⟨p, v, vs, hk.cell a1 hr, a2.keeps hk hS⟩, by rw [hk.frozen (a := ⟨r, 3, none⟩) hl hr]; exact h.f3, by rw [hk.frozen (a := ⟨r, 4, none⟩) hl hr]; exact h.f4,
    h.Fr, fun k hk' => Nat.lt_of_lt_of_le (h.Fl k hk') hk.size, h.b1, h.b2, h.b3, h.hd, h.ln, h.ok⟩
theorem Rk.mono {w w' : World} {r g base blocks head : Nat} {F : Nat → Prop} {rs : List Rc} (h : Rk w r g base blocks head F rs) (hb : Below w.heap.size w w') : Rk w' r g base blocks head F rs :=
  h.keeps (S := fun _ => False) (Keeps.of_below hb) id (fun _ _ => id)

set_option maxRecDepth 100000 in
set_option maxHeartbeats 400000 in
theorem gMade_yes {w : World} {r g base blocks head : Nat} {F : Nat → Prop} {rs : List Rc} (h : Rk w r g base blocks head F rs) :
    Calls Tryz.prog 46 #[.pointer (some ⟨r, 0, none⟩)] w fun e w' => e = .returned (.bool true) ∧ w = w' := by
  have c0 := h.c0
  clear h
  go_enter Tryz.func46, Tryz.ntmps46
  go_wp2
  go_ret
  exact ⟨by simp, rfl⟩

set_option maxHeartbeats 400000 in
theorem gSize_any (n : Int) (w : World) : Calls Tryz.prog 38 #[.int .i64 n] w fun e w' => e = .returned (.bool (decide (1 ≤ n ∧ n ≤ 256))) ∧ w = w' := by
  by_cases h1 : 1 ≤ n
  · by_cases h2 : n ≤ 256
    · have h3 : decide (1 ≤ n ∧ n ≤ 256) = true := by simp [h1, h2]
      rw [h3]; clear h3
      go_enter Tryz.func38, Tryz.ntmps38
      go_wp2
      go_ret
      exact ⟨by simp, rfl⟩
    · have h3 : decide (1 ≤ n ∧ n ≤ 256) = false := by simp; omega
      rw [h3]; clear h3
      go_enter Tryz.func38, Tryz.ntmps38
      go_wp2
      go_ret
      exact ⟨by simp, rfl⟩
  · have h3 : decide (1 ≤ n ∧ n ≤ 256) = false := by simp; omega
    rw [h3]; clear h3
    go_enter Tryz.func38, Tryz.ntmps38
    go_wp2
    go_ret
    exact ⟨by simp, rfl⟩

set_option maxHeartbeats 400000 in
theorem gHead_any (n : Int) (w : World) : Calls Tryz.prog 39 #[.int .i64 n] w fun e w' => e = .returned (.bool (decide (0 ≤ n ∧ n ≤ 1152921504606846976))) ∧ w = w' := by
  by_cases h1 : 0 ≤ n
  · by_cases h2 : n ≤ 1152921504606846976
    · have h3 : decide (0 ≤ n ∧ n ≤ 1152921504606846976) = true := by simp [h1, h2]
      rw [h3]; clear h3
      go_enter Tryz.func39, Tryz.ntmps39
      go_wp2
      go_ret
      exact ⟨by simp, rfl⟩
    · have h3 : decide (0 ≤ n ∧ n ≤ 1152921504606846976) = false := by simp; omega
      rw [h3]; clear h3
      go_enter Tryz.func39, Tryz.ntmps39
      go_wp2
      go_ret
      exact ⟨by simp, rfl⟩
  · have h3 : decide (0 ≤ n ∧ n ≤ 1152921504606846976) = false := by simp; omega
    rw [h3]; clear h3
    go_enter Tryz.func39, Tryz.ntmps39
    go_wp2
    go_ret
    exact ⟨by simp, rfl⟩

set_option maxHeartbeats 400000 in
theorem gLap_any (n : Nat) (w : World) (h : n ≤ 256) : Calls Tryz.prog 40 #[.int .i64 (n : Int)] w fun e w' => e = .returned (.int .i64 ((4 * n : Nat) : Int)) ∧ w = w' := by
  go_enter Tryz.func40, Tryz.ntmps40
  go_wp2
  go_ret
  exact ⟨ret_int (by omega), rfl⟩

set_option maxRecDepth 100000 in
set_option maxHeartbeats 400000 in
theorem gBlock_any (g base blocks n : Nat) (w : World) (h1 : 1 ≤ blocks) (h2 : blocks ≤ 256) (h3 : base ≤ 2048) (hn : n ≤ 2305843009213693952) :
    Calls Tryz.prog 66 #[.agg #[.pointer (some ⟨g, 0, none⟩), .int .i64 (base : Int), .int .i64 (blocks : Int)], .int .i64 (n : Int)] w fun e w' => e = .returned (.int .i64 ((base + n / 4 % blocks : Nat) : Int)) ∧ Below w.heap.size w w' := by
  have hm : n / 4 % blocks < blocks := Nat.mod_lt _ (by omega)
  have hw : IntKind.i64.wrap ((n : Int) / 4) = ((n / 4 : Nat) : Int) := by rw [show ((n : Int) / 4) = ((n / 4 : Nat) : Int) by omega]; exact wrap_small (by omega)
  have hq : n / 4 ≤ 2305843009213693952 := by omega
  generalize n / 4 = q at *
  have hb0 : ((blocks : Int) == 0) = false := by simp; omega
  have hne : ¬ (blocks : Int) = 0 := by omega
  go_enter Tryz.func66, Tryz.ntmps66
  go_wp2_with fail
  go_quiet (fail)
  go_wp2_with fail
  go_ret
  exact ⟨ret_int (by simp), below_drewN ((Below.refl _ _).alloc (Nat.le_refl _) _) _⟩

set_option maxRecDepth 100000 in
set_option maxHeartbeats 400000 in
theorem gSector_any (m off cap n : Nat) (w : World) (hc : 256 ≤ cap) (hn : n ≤ 2305843009213693952) :
    Calls Tryz.prog 68 #[.slice (some ⟨m, off, none⟩) 256 cap, .int .i64 (n : Int)] w fun e w' => e = .returned (.slice (some ⟨m, off + n % 4 * 64, none⟩) 64 (cap - n % 4 * 64)) ∧ w = w' := by
  have hm : n % 4 < 4 := Nat.mod_lt _ (by omega)
  go_enter Tryz.func68, Tryz.ntmps68
  go_wp2
  go_ret
  exact ⟨rfl, rfl⟩

set_option maxRecDepth 100000 in
set_option maxHeartbeats 400000 in
theorem head_yes {w : World} {r g base blocks head : Nat} {F : Nat → Prop} {rs : List Rc} (h : Rk w r g base blocks head F rs) :
    Calls Tryz.prog 33 #[.pointer (some ⟨r, 0, none⟩)] w fun e w' => e = .returned (.int .i64 (head : Int)) ∧ w = w' := by
  have c3 := h.c3
  go_enter Tryz.func33, Tryz.ntmps33
  go_wp2_with fail
  refine (gMade_yes h).mono ?_
  rintro e w' ⟨rfl, rfl⟩
  go_wp2
  go_ret
  exact ⟨by simp, rfl⟩

set_option maxRecDepth 100000 in
set_option maxHeartbeats 400000 in
theorem tail_yes {w : World} {r g base blocks head : Nat} {F : Nat → Prop} {rs : List Rc} (h : Rk w r g base blocks head F rs) :
    Calls Tryz.prog 16 #[.pointer (some ⟨r, 0, none⟩)] w fun e w' => e = .returned (.int .i64 ((head + rs.length : Nat) : Int)) ∧ ∃ n, w.drewN n = w' := by
  have c3 := h.c3
  obtain ⟨p, v, vs, c4, hw⟩ := h.c4
  obtain ⟨ao, cap, rfl, _⟩ := owns_form hw.row
  have hl := h.ln
  have hb2 := h.b2
  have hhd := h.hd
  have hm := gMade_yes h
  clear h hw
  go_enter Tryz.func16, Tryz.ntmps16
  go_wp2_with fail
  refine hm.mono ?_
  rintro e w' ⟨rfl, rfl⟩
  go_wp2_with fail
  go_quiet (fail)
  go_wp2_with fail
  go_ret
  exact ⟨ret_int (by omega), _, rfl⟩

set_option maxRecDepth 100000 in
set_option maxHeartbeats 400000 in
theorem room_yes {w : World} {r g base blocks head : Nat} {F : Nat → Prop} {rs : List Rc} (h : Rk w r g base blocks head F rs) :
    Calls Tryz.prog 17 #[.pointer (some ⟨r, 0, none⟩)] w fun e w' => e = .returned (.int .i64 ((4 * blocks - rs.length : Nat) : Int)) ∧ ∃ n, w.drewN n = w' := by
  have c2 := h.c2
  obtain ⟨p, v, vs, c4, hw⟩ := h.c4
  obtain ⟨ao, cap, rfl, _⟩ := owns_form hw.row
  have hl := h.ln
  have hb2 := h.b2
  have hm := gMade_yes h
  clear h hw
  go_enter Tryz.func17, Tryz.ntmps17
  go_wp2_with fail
  refine hm.mono ?_
  rintro e w' ⟨rfl, rfl⟩
  have hL : ∀ n, Calls Tryz.prog 40 #[.int .i64 (blocks : Int)] (w.drewN n) fun e w' => e = .returned (.int .i64 ((4 * blocks : Nat) : Int)) ∧ w' = w.drewN n := fun n => (gLap_any blocks _ (by omega)).mono (fun e w' h => ⟨h.1, h.2.symm⟩)
  go_wp2_with fail
  go_quiet (first | (go_at_call 40; refine Calls.quiet_of_same (hL _)))
  go_wp2_with fail
  go_ret
  exact ⟨ret_int (by omega), _, rfl⟩

/-- Where the next lap begins. -/
def lapS (t b : Int) : Int := if 1 ≤ b ∧ b ≤ 256 ∧ 0 ≤ t ∧ t ≤ 1152921504606846976 then t + 4 * b else 0

set_option maxRecDepth 100000 in
set_option maxHeartbeats 400000 in
theorem lap_any (t b : Int) (w : World) : Calls Tryz.prog 8 #[.int .i64 t, .int .i64 b] w fun e w' => e = .returned (.int .i64 (lapS t b)) ∧ w = w' := by
  have h1 := gSize_any b
  have h2 := gHead_any t
  by_cases hb : 1 ≤ b ∧ b ≤ 256
  · by_cases ht : 0 ≤ t ∧ t ≤ 1152921504606846976
    · have e : lapS t b = t + 4 * b := if_pos ⟨hb.1, hb.2, ht.1, ht.2⟩
      rw [e]; clear e
      simp only [decide_eq_true hb] at h1
      simp only [decide_eq_true ht] at h2
      obtain ⟨b', rfl⟩ := Int.eq_ofNat_of_zero_le (show 0 ≤ b by omega)
      have h3 := fun w => gLap_any b' w (by omega)
      go_enter Tryz.func8, Tryz.ntmps8
      go_wp2_with fail
      refine (h1 _).mono ?_
      rintro e w' ⟨rfl, rfl⟩
      go_wp2_with fail
      refine (h2 _).mono ?_
      rintro e w' ⟨rfl, rfl⟩
      go_wp2_with fail
      refine (h3 _).mono ?_
      rintro e w' ⟨rfl, rfl⟩
      go_wp2_with fail
      go_ret
      exact ⟨ret_int (by omega), rfl⟩
    · have e : lapS t b = 0 := if_neg (fun h => ht ⟨h.2.2.1, h.2.2.2⟩)
      rw [e]; clear e
      simp only [decide_eq_true hb] at h1
      simp only [decide_eq_false ht] at h2
      go_enter Tryz.func8, Tryz.ntmps8
      go_wp2_with fail
      refine (h1 _).mono ?_
      rintro e w' ⟨rfl, rfl⟩
      go_wp2_with fail
      refine (h2 _).mono ?_
      rintro e w' ⟨rfl, rfl⟩
      go_wp2_with fail
      go_ret
      exact ⟨rfl, rfl⟩
  · have e : lapS t b = 0 := if_neg (fun h => hb ⟨h.1, h.2.1⟩)
    rw [e]; clear e
    simp only [decide_eq_false hb] at h1
    go_enter Tryz.func8, Tryz.ntmps8
    go_wp2_with fail
    refine (h1 _).mono ?_
    rintro e w' ⟨rfl, rfl⟩
    go_wp2_with fail
    go_ret
    exact ⟨rfl, rfl⟩


end Go.Proofs.YtjhbljkoapbkfaaGreat

namespace Go.Proofs.YtjhbljkoapbkfaaGreat
open Go.RowKit Go.Attic Go.Shelf

/-- The document's ring stands in block x, on the disk in block g; its records, and what else it reads, lie in F. -/
structure Wk (w : World) (x g base blocks head : Nat) (F : Nat → Prop) (rs : List Rc) : Prop where
  c0 : w.cell? ⟨x, 0, none⟩ = some (.pointer (some ⟨g, 0, none⟩))
  c1 : w.cell? ⟨x, 1, none⟩ = some (.int .i64 (base : Int))
  c2 : w.cell? ⟨x, 2, none⟩ = some (.int .i64 (blocks : Int))
  c3 : w.cell? ⟨x, 3, none⟩ = some (.int .i64 (head : Int))
  c4 : ∃ ao cap, w.cell? ⟨x, 4, none⟩ = some (.slice ao rs.length cap) ∧ Rs w F (.slice ao rs.length cap) rs ∧ (ao = none → cap = 0)
  f3 : w.frozen? ⟨x, 3, none⟩ = false
  f4 : w.frozen? ⟨x, 4, none⟩ = false
  xF : ¬ F x
  Fl : ∀ k, F k → k < w.heap.size
  b1 : 1 ≤ blocks
  b2 : blocks ≤ 256
  b3 : base ≤ 2048
  hd : head ≤ 1152921504606846976
  ln : rs.length ≤ 4 * blocks
  ok : ∀ x ∈ rs, okRc x

theorem Wk.xl {w : World} {x g base blocks head : Nat} {F : Nat → Prop} {rs : List Rc} (h : Wk w x g base blocks head F rs) : x < w.heap.size := by
  have := World.block_lt_of_cell? w _ h.c0; simpa using this

theorem Wk.keeps {w w' : World} {x g base blocks head : Nat} {F S : Nat → Prop} {rs : List Rc} (h : Wk w x g base blocks head F rs) (hk : Keeps S w w') (hx : ¬ S x) (hS : ∀ k, F k → ¬ S k) : Wk w' x g base blocks head F rs := by
  obtain ⟨ao, cap, a1, a2, a3⟩ := h.c4
  have hl := h.xl
  exact ⟨hk.cell h.c0 hx, hk.cell h.c1 hx, hk.cell h.c2 hx, hk.cell h.c3 hx, ⟨ao, cap, hk.cell a1 hx, a2.keeps hk hS, a3⟩, by rw [hk.frozen (a := ⟨x, 3, none⟩) hl hx]; exact h.f3, by rw [hk.frozen (a := ⟨x, 4, none⟩) hl hx]; exact h.f4, h.xF, fun k hk' => Nat.lt_of_lt_of_le (h.Fl k hk') hk.size, h.b1, h.b2, h.b3, h.hd, h.ln, h.ok⟩
theorem Wk.mono {w w' : World} {x g base blocks head : Nat} {F : Nat → Prop} {rs : List Rc} (h : Wk w x g base blocks head F rs) (hb : Below w.heap.size w w') : Wk w' x g base blocks head F rs :=
  h.keeps (S := fun _ => False) (Keeps.of_below hb) id (fun _ _ => id)

set_option maxRecDepth 100000 in
set_option maxHeartbeats 400000 in
theorem rtail_yes {w : World} {x g base blocks head : Nat} {F : Nat → Prop} {rs : List Rc} (h : Wk w x g base blocks head F rs) :
    Calls Tryz.prog 30 #[.pointer (some ⟨x, 0, none⟩)] w fun e w' => e = .returned (.int .i64 ((head + rs.length : Nat) : Int)) ∧ ∃ n, w.drewN n = w' := by
  have c3 := h.c3
  obtain ⟨ao, cap, c4, -, -⟩ := h.c4
  have hl := h.ln
  have hb2 := h.b2
  have hhd := h.hd
  clear h
  go_enter Tryz.func30, Tryz.ntmps30
  go_wp2_with fail
  go_quiet (fail)
  go_wp2_with fail
  go_ret
  exact ⟨ret_int (by omega), _, rfl⟩

set_option maxRecDepth 100000 in
set_option maxHeartbeats 400000 in
theorem rroom_yes {w : World} {x g base blocks head : Nat} {F : Nat → Prop} {rs : List Rc} (h : Wk w x g base blocks head F rs) :
    Calls Tryz.prog 34 #[.pointer (some ⟨x, 0, none⟩)] w fun e w' => e = .returned (.int .i64 ((4 * blocks - rs.length : Nat) : Int)) ∧ ∃ n, w.drewN n = w' := by
  have c2 := h.c2
  obtain ⟨ao, cap, c4, -, -⟩ := h.c4
  have hl := h.ln
  have hb2 := h.b2
  have hhd := h.hd
  clear h
  go_enter Tryz.func34, Tryz.ntmps34
  go_wp2_with fail
  go_quiet (fail)
  go_wp2_with fail
  go_ret
  exact ⟨ret_int (by omega), _, rfl⟩

set_option maxRecDepth 100000 in
set_option maxHeartbeats 400000 in
theorem place_yes (base blocks n : Nat) (w : World) (h1 : 1 ≤ blocks) (h2 : blocks ≤ 256) (h3 : base ≤ 2048) (h4 : n ≤ 2305843009213693952) :
    Calls Tryz.prog 51 #[.int .i64 (base : Int), .int .i64 (blocks : Int), .int .i64 (n : Int)] w fun e w' => e = .returned (.tuple #[.int .i64 ((base + n / 4 % blocks : Nat) : Int), .int .i64 ((n % 4 * 64 : Nat) : Int)]) ∧ w = w' := by
  obtain ⟨k, hk⟩ : ∃ k : Nat, n % (4 * blocks) = k := ⟨_, rfl⟩
  have hkl : k < 4 * blocks := hk ▸ Nat.mod_lt _ (by omega)
  have hk1 : n / 4 % blocks = k / 4 := by rw [← hk, Nat.mod_mul_right_div_self]
  have hk2 : n % 4 = k % 4 := by rw [← hk, Nat.mod_mod_of_dvd _ (Nat.dvd_mul_right 4 blocks)]
  rw [hk1, hk2]
  clear hk1 hk2
  have hr : (n : Int).tmod (4 * (blocks : Int)) = (k : Int) := by rw [Int.tmod_eq_emod_of_nonneg (by omega), ← hk]; simp
  have hne : ¬ (4 * (blocks : Int) = 0) := by omega
  have hq4 : (k : Int).tdiv 4 = ((k / 4 : Nat) : Int) := by rw [Int.tdiv_eq_ediv_of_nonneg (by omega)]; simp
  have hm4 : (k : Int).tmod 4 = ((k % 4 : Nat) : Int) := by rw [Int.tmod_eq_emod_of_nonneg (by omega)]; simp
  clear hk
  go_enter Tryz.func51, Tryz.ntmps51
  go_wp2_with fail
  refine bodyPost_ret (v := .tuple #[.int .i64 ((base + k / 4 : Nat) : Int), .int .i64 ((k % 4 * 64 : Nat) : Int)]) (by simp [results, Tryz.results51, go_sem]) rfl ⟨rfl, rfl⟩

set_option maxRecDepth 100000 in
set_option maxHeartbeats 400000 in
theorem rlap_any (t b : Int) (w : World) : Calls Tryz.prog 9 #[.int .i64 t, .int .i64 b] w fun e w' => e = .returned (.int .i64 (lapS t b)) ∧ w = w' := by
  unfold lapS
  by_cases hb1 : 1 ≤ b
  · by_cases hb2 : b ≤ 256
    · by_cases ht1 : 0 ≤ t
      · by_cases ht2 : t ≤ 1152921504606846976
        · rw [if_pos (by omega)]
          go_enter Tryz.func9, Tryz.ntmps9
          go_wp2_with fail
          go_ret
          exact ⟨ret_int (by omega), rfl⟩
        · rw [if_neg (by omega)]
          go_enter Tryz.func9, Tryz.ntmps9
          go_wp2_with fail
          go_ret
          exact ⟨rfl, rfl⟩
      · rw [if_neg (by omega)]
        go_enter Tryz.func9, Tryz.ntmps9
        go_wp2_with fail
        go_ret
        exact ⟨rfl, rfl⟩
    · rw [if_neg (by omega)]
      go_enter Tryz.func9, Tryz.ntmps9
      go_wp2_with fail
      go_ret
      exact ⟨rfl, rfl⟩
  · rw [if_neg (by omega)]
    go_enter Tryz.func9, Tryz.ntmps9
    go_wp2_with fail
    go_ret
    exact ⟨rfl, rfl⟩

theorem Rs.drop {w : World} {F : Nat → Prop} {ao : Option Addr} {n cap : Nat} {rs : List Rc} (h : Rs w F (.slice ao n cap) rs) (k : Nat) (hk : k ≤ rs.length) : Rs w F (.slice (if cap = k then ao else ao.map (·.add (k * 5))) (rs.length - k) (cap - k)) (rs.drop k) := by
  obtain ⟨ao', cap', vs, e, h1, h2, h3, h4⟩ := h
  cases e
  refine ⟨_, _, vs.drop k, by rw [List.length_drop], by simp; omega, by simp [h2], fun hp => ?_, fun i hi hv => ?_⟩
  · simp only [List.length_drop] at hp
    obtain ⟨b, off, rfl, hF, hat⟩ := h3 (by omega)
    rw [if_neg (by omega)]
    refine ⟨b, off + k * 5, by simp [Addr.add_lit], hF, fun i hi hv => ?_⟩
    simp only [List.length_drop] at hi hv
    simp only [List.getElem_drop]
    have := hat (k + i) (by omega) (by omega)
    rw [show off + k * 5 + i * 5 = off + (k + i) * 5 by omega]
    exact this
  · simp only [List.getElem_drop]
    exact h4 _ _ _

/-- The records are others now. -/
theorem Wk.put4 {w : World} {x g base blocks head : Nat} {F F' : Nat → Prop} {rs rs' : List Rc} (h : Wk w x g base blocks head F rs) {ao : Option Addr} {cap : Nat} (hR : Rs w F' (.slice ao rs'.length cap) rs') (hn : ao = none → cap = 0) (hF : ∀ k, F' k → k < w.heap.size ∧ k ≠ x) (hl : rs'.length ≤ 4 * blocks) (hok : ∀ y ∈ rs', okRc y) :
    Wk (w.setCell ⟨x, 4, none⟩ (.slice ao rs'.length cap)) x g base blocks head F' rs' := by
  obtain ⟨ao0, cap0, a1, a2, a3⟩ := h.c4
  have hk : Keeps (fun k => k = x) w (w.setCell ⟨x, 4, none⟩ (.slice ao rs'.length cap)) := keeps_set w x 4 _
  exact ⟨cell_set_other h.c0 (by omega), cell_set_other h.c1 (by omega), cell_set_other h.c2 (by omega), cell_set_other h.c3 (by omega), ⟨ao, cap, cell_set_same a1, hR.keeps hk (fun k hk e => (hF k hk).2 e), hn⟩, by simpa using h.f3, by simpa using h.f4, fun hx => (hF x hx).2 rfl, fun k hk' => Nat.lt_of_lt_of_le (hF k hk').1 hk.size, h.b1, h.b2, h.b3, h.hd, hl, hok⟩
theorem Wk.put3 {w : World} {x g base blocks head head' : Nat} {F : Nat → Prop} {rs : List Rc} (h : Wk w x g base blocks head F rs) (hh : head' ≤ 1152921504606846976) :
    Wk (w.setCell ⟨x, 3, none⟩ (.int .i64 (head' : Int))) x g base blocks head' F rs := by
  obtain ⟨ao0, cap0, a1, a2, a3⟩ := h.c4
  have hk : Keeps (fun k => k = x) w (w.setCell ⟨x, 3, none⟩ (.int .i64 (head' : Int))) := keeps_set w x 3 _
  exact ⟨cell_set_other h.c0 (by omega), cell_set_other h.c1 (by omega), cell_set_other h.c2 (by omega), cell_set_same h.c3, ⟨ao0, cap0, cell_set_other a1 (by omega), a2.keeps hk (fun k hk e => h.xF (by have e' : k = x := e; exact e' ▸ hk)), a3⟩, by simpa using h.f3, by simpa using h.f4, h.xF, fun k hk' => Nat.lt_of_lt_of_le (h.Fl k hk') hk.size, h.b1, h.b2, h.b3, hh, h.ln, h.ok⟩

set_option maxRecDepth 100000 in
set_option maxHeartbeats 600000 in
theorem rtrim_yes {w : World} {x g base blocks head : Nat} {F : Nat → Prop} {rs : List Rc} (h : Wk w x g base blocks head F rs) (k : Nat) (hk : k ≤ rs.length) (hh : head + k ≤ 1152921504606846976) :
    Calls Tryz.prog 25 #[.pointer (some ⟨x, 0, none⟩), .int .i64 ((head + k : Nat) : Int)] w fun e w' => e = .returned (.int .i64 0) ∧ Wk w' x g base blocks (head + k) F (rs.drop k) ∧ Keeps (fun b => b = x) w w' := by
  have H := hide h
  have htl := rtail_yes h
  have c3 := h.c3
  obtain ⟨ao, cap, c4, hR, hn⟩ := h.c4
  have f3 := h.f3
  have f4 := h.f4
  have hR0 := hide hR
  have hle : rs.length ≤ cap := by obtain ⟨_, _, e, h1⟩ := hR.slice; cases e; exact h1
  have hsub : ((head + k : Nat) : Int) - (head : Int) = (k : Int) := by omega
  have hge : ¬ ((head + k : Nat) : Int) < (head : Int) := by omega
  have hlt : ¬ ((head + rs.length : Nat) : Int) < ((head + k : Nat) : Int) := by omega
  generalize head + k = hk' at *
  generalize head + rs.length = tl at *
  have Hn := hide hn
  clear h hR hn
  go_enter Tryz.func25, Tryz.ntmps25
  go_wp2_with fail
  refine htl.mono ?_
  rintro e w1 ⟨rfl, n1, rfl⟩
  go_wp2_with fail
  have c3' : (w.drewN n1).cell? ⟨x, 3, none⟩ = some (.int .i64 (head : Int)) := c3
  have c4' : (w.drewN n1).cell? ⟨x, 4, none⟩ = some (.slice ao rs.length cap) := c4
  have f3' : (w.drewN n1).frozen? ⟨x, 3, none⟩ = false := f3
  have f4' : (w.drewN n1).frozen? ⟨x, 4, none⟩ = false := f4
  have hX : Below w.heap.size w (w.drewN n1) := below_drewN (Below.refl _ _) _
  have HX := hide (H.out.mono hX)
  have hwk : IntKind.i64.wrap (k : Int) = (k : Int) := wrap_small (by omega)
  have RX := hide (hR0.out.mono hX)
  generalize w.drewN n1 = X at *
  clear c3 c4 f3 f4 htl hge hlt
  obtain ⟨ao', hao'⟩ : ∃ ao', (if cap = k then ao else ao.map (·.add (k * 5))) = ao' := ⟨_, rfl⟩
  have HR := hide (RX.out.drop k hk)
  rw [hao'] at HR
  have hfin : Wk (((X.drew).setCell ⟨x, 4, none⟩ (.slice ao' (rs.length - k) (cap - k))).setCell ⟨x, 3, none⟩ (.int .i64 (hk' : Int))) x g base blocks hk' F (rs.drop k) := by
    have hx := HX.out
    have := ((hx.mono (Below.refl _ _).drew).put4 (rs' := rs.drop k) (ao := ao') (cap := cap - k) (F' := F) (by rw [List.length_drop]; exact HR.out.mono (Below.refl _ _).drew) (fun e => by
      rw [← hao'] at e
      split at e
      · omega
      · cases ao with
        | none => have := Hn.out rfl; omega
        | some a => simp at e) (fun k hk => ⟨by simpa using hx.Fl k hk, fun e => hx.xF (e ▸ hk)⟩) (by rw [List.length_drop]; have := hx.ln; omega) (fun y hy => hx.ok y (List.mem_of_mem_drop hy))).put3 hh
    rw [List.length_drop] at this
    exact this
  have Hfin := hide hfin
  have hkk : Keeps (fun b => b = x) X (((X.drew).setCell ⟨x, 4, none⟩ (.slice ao' (rs.length - k) (cap - k))).setCell ⟨x, 3, none⟩ (.int .i64 (hk' : Int))) := ((Keeps.drew X).trans (keeps_set _ x 4 _)).trans (keeps_set _ x 3 _)
  have Hkk := hide ((Keeps.of_below hX).trans hkk)
  clear hfin hkk
  have hao2 := hao'
  clear hao'
  go_region_law (skip)
  all_goals
    go_wp2_with fail
    go_ret
    exact ⟨rfl, Hfin.out, Hkk.out⟩

set_option maxRecDepth 100000 in
set_option maxHeartbeats 400000 in
theorem rtrim_arg {w : World} {x g base blocks head : Nat} {F : Nat → Prop} {rs : List Rc} (h : Wk w x g base blocks head F rs) (i : Int) (hi : i < (head : Int) ∨ ((head + rs.length : Nat) : Int) < i) :
    Calls Tryz.prog 25 #[.pointer (some ⟨x, 0, none⟩), .int .i64 i] w fun e w' => e = .returned (.int .i64 1) ∧ Below w.heap.size w w' := by
  have htl := rtail_yes h
  have c3 := h.c3
  clear h
  generalize head + rs.length = tl at *
  by_cases hlt : i < (head : Int)
  · go_enter Tryz.func25, Tryz.ntmps25
    go_wp2_with fail
    go_ret
    exact ⟨rfl, Below.refl _ _⟩
  · have hgt : (tl : Int) < i := by omega
    go_enter Tryz.func25, Tryz.ntmps25
    go_wp2_with fail
    refine htl.mono ?_
    rintro e w1 ⟨rfl, n1, rfl⟩
    go_wp2_with fail
    go_ret
    exact ⟨rfl, below_drewN (Below.refl _ _) _⟩

end Go.Proofs.YtjhbljkoapbkfaaGreat
