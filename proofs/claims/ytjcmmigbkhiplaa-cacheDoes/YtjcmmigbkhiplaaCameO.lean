/- A script's operations as they came in. -/
import Derived.Test.YtjcmmigbkhiplaaL2
import Derived.Test.YtjcmmigbkhiplaaFrame
import Derived.Deep.Slices
set_option linter.unusedSimpArgs false
set_option linter.unusedVariables false
namespace Go.Proofs.Ytjcmmigbkhiplaa
open Go.RowKit Go.Attic Go.ChangeShapes Go.WideShapes

/-- Some bytes, from their reading alone. -/
theorem bs_trod {H : Type} {enc : TypeId × Value → H} {P : Program} {W : World} {t e : TypeId} (ht : P.underlying t = some (.slice e)) (he : P.underlying e = some (.int .u8)) (hc : P.cellsOf e = 1) (hb : P.bytesOf e = 1)
    {v : Value} {x : DataW H × List MemPlace} {fuel : Nat} (h : DataW.trod enc P W 0 (fun _ => true) true fuel t [v] = some x) (hw : ∀ n ∈ x.1.weights P t, n ≤ reachBytes) : ∃ l, Bs W v l ∧ l.length ≤ 140737488355328 := by
  rcases open_ints ht he hc h with ⟨hcs, _⟩ | ⟨a, len, cap, zs, hcs, _, hl, hm, hz, hx, hcell, hwz⟩
  · obtain rfl : v = .slice none 0 0 := by simpa using hcs
    exact ⟨[], Bs.nil W, by simp⟩
  · obtain rfl : v = .slice (some a) len cap := by simpa using hcs
    simp at hz
    have hle : len ≤ zs.length := by omega
    have hw2 : ∀ n ∈ zs, 0 ≤ n ∧ n < 256 := fun n hn => by
      have := hwz n hn
      simp [Lit.wf, IntKind.min, IntKind.max, IntKind.signed, IntKind.bits] at this
      omega
    have hlen : ((zs.take len).map Int.toNat).length = len := by simp; omega
    refine ⟨(zs.take len).map Int.toNat, ⟨some a, cap, by rw [hlen], by omega, by simp, ?_, ?_⟩, ?_⟩
    · intro n hn
      simp only [List.mem_map] at hn
      obtain ⟨z, hz1, rfl⟩ := hn
      have := hw2 z (List.mem_of_mem_take hz1)
      omega
    · intro hp
      rw [hlen] at hp ⊢
      obtain ⟨b, off, spot⟩ := a
      have hspot : spot = Option.none := by simpa [Addr.add] using World.cell?_spot (hcell 0 (by omega))
      subst hspot
      refine ⟨b, off, rfl, fun i hi => ?_⟩
      have h1 := hcell i (by omega)
      rw [Addr.add_lit] at h1
      rw [h1]
      have h2 := hw2 (zs.getD i 0) (by rw [List.getD_eq_getElem?_getD, List.getElem?_eq_getElem (by omega)]; exact List.getElem_mem _)
      have h3 : ((zs.take len).map Int.toNat).getD i 0 = (zs.getD i 0).toNat := by
        simp [List.getD_eq_getElem?_getD, hi, List.getElem?_eq_getElem (show i < zs.length by omega)]
      rw [h3]
      congr 2
      omega
    · rw [hlen]
      rw [hx] at hw
      have := hw (((lits IntKind.u8 (zs.take len)).length + (lits IntKind.u8 (zs.drop len)).length) * P.bytesOf e) (by simp only [DataW.weights, ht]; exact List.mem_cons_self)
      rw [hb] at this
      simp [lits, reachBytes] at this
      omega

theorem weightsAll_mem {H : Type} {P : Program} {e : TypeId} {l : List (DataW H)} {d : DataW H} (hd : d ∈ l) : ∀ n ∈ d.weights P e, n ∈ DataW.weightsAll P e l := by
  induction l with
  | nil => simp at hd
  | cons x l ih =>
    intro n hn
    simp only [DataW.weightsAll, List.mem_append]
    rcases List.mem_cons.1 hd with rfl | h
    · exact .inl hn
    · exact .inr (ih h n hn)

theorem int_trod {H : Type} {enc : TypeId × Value → H} {P : Program} {W : World} {t : TypeId} {k : IntKind} (ht : P.underlying t = some (.int k)) {v : Value} {x : DataW H × List MemPlace} {fuel : Nat} (h : DataW.trod enc P W 0 (fun _ => true) true fuel t [v] = some x) :
    ∃ n, v = .int k n ∧ (Lit.int k n).wf = true := by
  obtain ⟨n, h1, _, h2⟩ := DataW.trod_int ht h
  exact ⟨n, by simpa using h1, h2⟩


structure OpX where
  d : Int
  i : Int
  o : Int
  b : List Nat

/-- An operation of a script stands at a place. -/
structure OpAt (w : World) (F : Nat → Prop) (bl o : Nat) (x : OpX) (vb : Value) : Prop where
  c0 : w.cell? ⟨bl, o, none⟩ = some (.int .i64 x.d)
  c1 : w.cell? ⟨bl, o + 1, none⟩ = some (.int .i64 x.i)
  c2 : w.cell? ⟨bl, o + 2, none⟩ = some (.int .i64 x.o)
  c3 : w.cell? ⟨bl, o + 3, none⟩ = some vb
  bs : Bs w vb x.b
  bF : 0 < x.b.length → ∀ k, vb.ownBlock = some k → F k
  i0 : -9223372036854775808 ≤ x.i ∧ x.i ≤ 9223372036854775807
  o0 : -9223372036854775808 ≤ x.o ∧ x.o ≤ 9223372036854775807
  pl : x.b.length ≤ 140737488355328
  bl : F bl

/-- The slice value v holds the operations l; what is read for them lies in F. -/
def Ops (w : World) (F : Nat → Prop) (v : Value) (l : List OpX) : Prop :=
  ∃ ao cap, v = .slice ao l.length cap ∧ l.length ≤ cap ∧ (0 < l.length → ∃ b off, ao = some ⟨b, off, none⟩ ∧ ∀ i (hi : i < l.length), ∃ vb, OpAt w F b (off + i * 4) l[i] vb)

theorem keeps_bs {S : Nat → Prop} {w w' : World} {v : Value} {l : List Nat} (hk : Keeps S w w') (hb : Bs w v l) (hv : 0 < l.length → ∀ b, v.ownBlock = some b → ¬ S b) : Bs w' v l := by
  obtain ⟨ao, cap, rfl, h1, h2, h3, h4⟩ := hb
  refine ⟨ao, cap, rfl, h1, h2, h3, fun hp => ?_⟩
  obtain ⟨b, off, rfl, hc⟩ := h4 hp
  exact ⟨b, off, rfl, fun i hi => hk.cell (hc i hi) (hv hp b rfl)⟩
theorem bs_lt2 {w : World} {v : Value} {l : List Nat} (h : Bs w v l) (hp : 0 < l.length) (k : Nat) (hk : v.ownBlock = some k) : k < w.heap.size := by
  obtain ⟨ao, cap, rfl, h1, h2, h3, h4⟩ := h
  obtain ⟨b, off, rfl, hc⟩ := h4 hp
  have h0 := World.block_lt_of_cell? w _ (hc 0 hp)
  injection hk with hk
  simpa [← hk] using h0

theorem OpAt.keeps {S F : Nat → Prop} {w w' : World} {bl o : Nat} {x : OpX} {vb : Value} (h : OpAt w F bl o x vb) (hk : Keeps S w w') (hS : ∀ k, F k → ¬ S k) : OpAt w' F bl o x vb :=
  ⟨hk.cell h.c0 (hS _ h.bl), hk.cell h.c1 (hS _ h.bl), hk.cell h.c2 (hS _ h.bl), hk.cell h.c3 (hS _ h.bl), keeps_bs hk h.bs (fun hp b hb => hS b (h.bF hp b hb)), h.bF, h.i0, h.o0, h.pl, h.bl⟩

theorem Ops.nil (w : World) (F : Nat → Prop) : Ops w F (.slice none 0 0) [] := ⟨none, 0, rfl, Nat.le_refl _, by simp⟩

set_option maxRecDepth 100000 in
set_option maxHeartbeats 1000000 in
theorem Ops.came {H : Type} {enc : TypeId × Value → H} {W : World} {base : Nat} {v : Value} {d : DataW H} {p : List MemPlace} {ts : List TypeId} {ds : List (DataW H)} {j : Nat} (hok : Value.okWide Try.prog W .any base 22 v)
    (h : DataW.Trod enc Try.prog W 0 (fun _ => true) true 22 v d p) (hsz : (DataW.weightsEach Try.prog ts ds).all (· ≤ reachBytes) = true) (ht : ts[j]? = some 22) (hd : ds[j]? = some d) : ∃ l, Ops W (fun k => k < W.heap.size) v l ∧ l.length ≤ 140737488355328 := by
  obtain ⟨a0, len0, cap0, rfl⟩ := okWide_slice Try.underlying22 hok
  obtain ⟨fuel, hf⟩ := h
  have hce : Try.prog.cellsOf 39 = 4 := by kernel_rfl
  have hwt : ∀ n ∈ d.weights Try.prog 22, n ≤ reachBytes := fun n hn => by
    have := List.all_eq_true.1 hsz _ (DataW.weights_mem_each ht hd n hn)
    simpa using this
  rcases Deep.open_slice Try.underlying22 hf with ⟨hcs, _⟩ | ⟨a, len, cap, m, n, D, Pl, hcs, _, hl, hm, hmm, hx, hel⟩
  · simp [Value.cells] at hcs
    obtain ⟨rfl, rfl, rfl⟩ := hcs
    exact ⟨[], Ops.nil W _, by simp⟩
  · simp [Value.cells] at hcs
    obtain ⟨rfl, rfl, rfl⟩ := hcs
    simp at hmm
    simp only [Prod.mk.injEq] at hx
    have hll : len0 ≤ 140737488355328 := by
      have hbe : Try.prog.bytesOf 39 = 48 := by kernel_rfl
      have := hwt ((((List.range len0).map D).length + ((List.range (m - len0)).map fun j => D (len0 + j)).length) * Try.prog.bytesOf 39) (by rw [hx.1]; simp only [DataW.weights, Try.underlying22]; exact List.mem_cons_self)
      rw [hbe] at this
      simp [reachBytes] at this
      omega
    by_cases hp : 0 < len0
    · obtain ⟨b, off, spot⟩ := a
      have hspot : spot = Option.none := by
        obtain ⟨cs', h1, _⟩ := hel 0 (by omega)
        rw [hce] at h1
        obtain ⟨_, hlen, hcell⟩ := World.cells?_some h1
        have e0 := hcell 0 (by omega)
        rw [List.getElem?_eq_getElem (by omega)] at e0
        have := World.cell?_spot e0
        simpa [Addr.add] using this
      subst hspot
      have each : ∀ i, i < len0 → ∃ q : OpX, ∃ vb, OpAt W (fun k => k < W.heap.size) b (off + i * 4) q vb := by
        intro i hi
        obtain ⟨cs', h1, h2⟩ := hel i (by omega)
        rw [hce] at h1
        obtain ⟨_, hlen, hcell⟩ := World.cells?_some h1
        obtain ⟨xs, k, hk, hxy, _, hxl, hfl⟩ := DataW.trod_struct Try.underlying39 h2
        have hwi : ∀ n ∈ (D i).weights Try.prog 39, n ≤ reachBytes := fun n hn => by
          refine hwt n ?_
          rw [hx.1]
          simp only [DataW.weights, Try.underlying22, List.mem_cons, List.mem_append]
          exact .inr (.inl (weightsAll_mem (List.mem_map.2 ⟨i, by simpa using hi, rfl⟩) n hn))
        match cs', hlen, xs, hxl with
        | [v0, v1, v2, v3], _, [y0, y1, y2, y3], _ =>
          have g0 := hfl 0 _ rfl
          have g1 := hfl 1 _ rfl
          have g2 := hfl 2 _ rfl
          have g3 := hfl 3 _ rfl
          have c3 : Try.prog.cellsOf 3 = 1 := by kernel_rfl
          have c37 : Try.prog.cellsOf 37 = 1 := by kernel_rfl
          simp [c3, c37] at g0 g1 g2 g3
          obtain ⟨n0, rfl, w0⟩ := int_trod Try.underlying3 g0
          obtain ⟨n1, rfl, w1⟩ := int_trod Try.underlying3 g1
          obtain ⟨n2, rfl, w2⟩ := int_trod Try.underlying3 g2
          have hb1 := bounds_i64 w1
          have hb2 := bounds_i64 w2
          have e : D i = DataW.agg [y0.1, y1.1, y2.1, y3.1] := by have := congrArg Prod.fst hxy; simpa using this
          obtain ⟨l3, hbs3, hl3⟩ := bs_trod Try.underlying37 Try.underlying5 (by kernel_rfl) (by kernel_rfl) g3 (fun n hn => by
            refine hwi n ?_
            rw [e]
            simp only [DataW.weights, Try.underlying39]
            refine DataW.weights_mem_each (j := 3) (t := 37) (d := y3.1) ?_ ?_ n hn
            · rfl
            · rfl)
          have e0 := hcell 0 (by omega)
          have e1 := hcell 1 (by omega)
          have e2 := hcell 2 (by omega)
          have e3 := hcell 3 (by omega)
          rw [Addr.add_lit, Addr.add_lit] at e0 e1 e2 e3
          have hbl : b < W.heap.size := by have := World.block_lt_of_cell? W _ e0; simpa using this
          exact ⟨⟨n0, n1, n2, l3⟩, v3, ⟨by simpa using e0, by simpa using e1, by simpa using e2, by simpa using e3, hbs3, fun hp k hk => bs_lt2 hbs3 hp k hk, hb1, hb2, hl3, hbl⟩⟩
      obtain ⟨q, hq⟩ := @Deep.choose_lt OpX ⟨⟨0, 0, 0, []⟩⟩ _ _ each
      refine ⟨(List.range len0).map q, ⟨some ⟨b, off, none⟩, cap0, by simp, by simp; omega, fun _ => ⟨b, off, rfl, fun i hi => ?_⟩⟩, by simpa using hll⟩
      simp at hi
      simpa using hq i hi
    · obtain rfl : len0 = 0 := by omega
      exact ⟨[], ⟨some a, cap0, rfl, by simp, by simp⟩, by simp⟩

end Go.Proofs.Ytjcmmigbkhiplaa
