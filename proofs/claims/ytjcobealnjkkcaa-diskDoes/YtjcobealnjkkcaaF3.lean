/- A script's operations as they came in. -/
import Derived.Test.YtjcobealnjkkcaaF2
import Derived.Test.YtjcobealnjkkcaaFrame
import Derived.Deep.Slices
set_option linter.unusedSimpArgs false
set_option linter.unusedVariables false
namespace Go.Proofs.Ytjcobealnjkkcaa
open Go.RowKit Go.Attic Go.ChangeShapes Go.WideShapes

structure OpX where
  d : Int
  b : Int
  fill : Nat
  len : Int
  n : Int
  picks : List Nat

/-- An operation stands at a place. -/
structure OpAt (w : World) (bl o : Nat) (x : OpX) (vp : Value) : Prop where
  c0 : w.cell? ⟨bl, o, none⟩ = some (.int .i64 x.d)
  c1 : w.cell? ⟨bl, o + 1, none⟩ = some (.int .i64 x.b)
  c2 : w.cell? ⟨bl, o + 2, none⟩ = some (.int .u8 (x.fill : Int))
  c3 : w.cell? ⟨bl, o + 3, none⟩ = some (.int .i64 x.len)
  c4 : w.cell? ⟨bl, o + 4, none⟩ = some (.int .i64 x.n)
  c5 : w.cell? ⟨bl, o + 5, none⟩ = some vp
  bs : Bs w vp x.picks
  fill : x.fill < 256
  n1 : x.n ≤ 9223372036854775807
  pl : x.picks.length ≤ 140737488355328

/-- The slice value v holds the operations l. -/
def Ops (w : World) (v : Value) (l : List OpX) : Prop :=
  ∃ ao cap, v = .slice ao l.length cap ∧ l.length ≤ cap ∧ (0 < l.length → ∃ b off, ao = some ⟨b, off, none⟩ ∧ ∀ i (hi : i < l.length), ∃ vp, OpAt w b (off + i * 6) l[i] vp)

theorem OpAt.mono {w w' : World} {bl o : Nat} {x : OpX} {vp : Value} (h : OpAt w bl o x vp) (hb : Below w.heap.size w w') : OpAt w' bl o x vp := by
  have hl : bl < w.heap.size := by have := World.block_lt_of_cell? w _ h.c0; simpa using this
  have k := Keeps.of_below (S := fun _ => False) hb
  exact ⟨k.cell h.c0 id, k.cell h.c1 id, k.cell h.c2 id, k.cell h.c3 id, k.cell h.c4 id, k.cell h.c5 id, h.bs.mono hb, h.fill, h.n1, h.pl⟩

theorem Ops.nil (w : World) : Ops w (.slice none 0 0) [] := ⟨none, 0, rfl, Nat.le_refl _, by simp⟩

/-- Some bytes, from their reading alone. -/
theorem bs_trod {H : Type} {enc : TypeId × Value → H} {P : Program} {W : World} {t e : TypeId} (ht : P.underlying t = some (.slice e)) (he : P.underlying e = some (.int .u8)) (hc : P.cellsOf e = 1) (hb : P.bytesOf e = 1)
    {v : Value} {x : DataW H × List MemPlace} {fuel : Nat} (h : DataW.trod enc P W 0 (fun _ => true) true fuel t [v] = some x) (hw : ∀ n ∈ x.1.weights P t, n ≤ reachBytes) : ∃ l, Bs W v l ∧ l.length ≤ 140737488355328 := by
  rcases open_ints ht he hc h with ⟨hcs, _⟩ | ⟨a, len, cap, zs, hcs, _, hl, hm, hz, hx, hcell, hwz⟩
  · obtain rfl : v = .slice none 0 0 := by simpa using hcs
    exact ⟨[], Bs.nil W, by simp⟩
  · obtain rfl : v = .slice (some a) len cap := by simpa using hcs
    simp at hz
    have hle : len ≤ zs.length := by omega
    have hw2 : ∀ n ∈ zs, 0 ≤ n ∧ n < 256 := fun n hn => by
      have := hwz n hn
      simp [Lit.wf, IntKind.min, IntKind.max, IntKind.signed, IntKind.bits] at this
      omega
    have hlen : ((zs.take len).map Int.toNat).length = len := by simp; omega
    refine ⟨(zs.take len).map Int.toNat, ⟨some a, cap, by rw [hlen], by omega, by simp, ?_, ?_⟩, ?_⟩
    · intro n hn
      simp only [List.mem_map] at hn
      obtain ⟨z, hz1, rfl⟩ := hn
      have := hw2 z (List.mem_of_mem_take hz1)
      omega
    · intro hp
      rw [hlen] at hp ⊢
      obtain ⟨b, off, spot⟩ := a
      have hspot : spot = Option.none := by simpa [Addr.add] using World.cell?_spot (hcell 0 (by omega))
      subst hspot
      refine ⟨b, off, rfl, fun i hi => ?_⟩
      have h1 := hcell i (by omega)
      rw [Addr.add_lit] at h1
      rw [h1]
      have h2 := hw2 (zs.getD i 0) (by rw [List.getD_eq_getElem?_getD, List.getElem?_eq_getElem (by omega)]; exact List.getElem_mem _)
      have h3 : ((zs.take len).map Int.toNat).getD i 0 = (zs.getD i 0).toNat := by
        simp [List.getD_eq_getElem?_getD, hi, List.getElem?_eq_getElem (show i < zs.length by omega)]
      rw [h3]
      congr 2
      omega
    · rw [hlen]
      rw [hx] at hw
      have := hw (((lits IntKind.u8 (zs.take len)).length + (lits IntKind.u8 (zs.drop len)).length) * P.bytesOf e) (by simp only [DataW.weights, ht]; exact List.mem_cons_self)
      rw [hb] at this
      simp [lits, reachBytes] at this
      omega

theorem weightsAll_mem {H : Type} {P : Program} {e : TypeId} {l : List (DataW H)} {d : DataW H} (hd : d ∈ l) : ∀ n ∈ d.weights P e, n ∈ DataW.weightsAll P e l := by
  induction l with
  | nil => simp at hd
  | cons x l ih =>
    intro n hn
    simp only [DataW.weightsAll, List.mem_append]
    rcases List.mem_cons.1 hd with rfl | h
    · exact .inl hn
    · exact .inr (ih h n hn)

theorem int_trod {H : Type} {enc : TypeId × Value → H} {P : Program} {W : World} {t : TypeId} {k : IntKind} (ht : P.underlying t = some (.int k)) {v : Value} {x : DataW H × List MemPlace} {fuel : Nat} (h : DataW.trod enc P W 0 (fun _ => true) true fuel t [v] = some x) :
    ∃ n, v = .int k n ∧ (Lit.int k n).wf = true := by
  obtain ⟨n, h1, _, h2⟩ := DataW.trod_int ht h
  exact ⟨n, by simpa using h1, h2⟩

set_option maxRecDepth 100000 in
set_option maxHeartbeats 1000000 in
theorem Ops.came {H : Type} {enc : TypeId × Value → H} {W : World} {base : Nat} {v : Value} {d : DataW H} {p : List MemPlace} {ts : List TypeId} {ds : List (DataW H)} {j : Nat} (hok : Value.okWide Try.prog W .any base 22 v)
    (h : DataW.Trod enc Try.prog W 0 (fun _ => true) true 22 v d p) (hsz : (DataW.weightsEach Try.prog ts ds).all (· ≤ reachBytes) = true) (ht : ts[j]? = some 22) (hd : ds[j]? = some d) : ∃ l, Ops W v l ∧ l.length ≤ 140737488355328 := by
  obtain ⟨a0, len0, cap0, rfl⟩ := okWide_slice Try.underlying22 hok
  obtain ⟨fuel, hf⟩ := h
  have hce : Try.prog.cellsOf 33 = 6 := by kernel_rfl
  have hwt : ∀ n ∈ d.weights Try.prog 22, n ≤ reachBytes := fun n hn => by
    have := List.all_eq_true.1 hsz _ (DataW.weights_mem_each ht hd n hn)
    simpa using this
  rcases Deep.open_slice Try.underlying22 hf with ⟨hcs, _⟩ | ⟨a, len, cap, m, n, D, Pl, hcs, _, hl, hm, hmm, hx, hel⟩
  · simp [Value.cells] at hcs
    obtain ⟨rfl, rfl, rfl⟩ := hcs
    exact ⟨[], Ops.nil W, by simp⟩
  · simp [Value.cells] at hcs
    obtain ⟨rfl, rfl, rfl⟩ := hcs
    simp at hmm
    simp only [Prod.mk.injEq] at hx
    have hll : len0 ≤ 140737488355328 := by
      have hbe : Try.prog.bytesOf 33 = 64 := by kernel_rfl
      have := hwt ((((List.range len0).map D).length + ((List.range (m - len0)).map fun j => D (len0 + j)).length) * Try.prog.bytesOf 33) (by rw [hx.1]; simp only [DataW.weights, Try.underlying22]; exact List.mem_cons_self)
      rw [hbe] at this
      simp [reachBytes] at this
      omega
    by_cases hp : 0 < len0
    · obtain ⟨b, off, spot⟩ := a
      have hspot : spot = Option.none := by
        obtain ⟨cs', h1, _⟩ := hel 0 (by omega)
        rw [hce] at h1
        obtain ⟨_, hlen, hcell⟩ := World.cells?_some h1
        have e0 := hcell 0 (by omega)
        rw [List.getElem?_eq_getElem (by omega)] at e0
        have := World.cell?_spot e0
        simpa [Addr.add] using this
      subst hspot
      have each : ∀ i, i < len0 → ∃ q : OpX, ∃ vp, OpAt W b (off + i * 6) q vp := by
        intro i hi
        obtain ⟨cs', h1, h2⟩ := hel i (by omega)
        rw [hce] at h1
        obtain ⟨_, hlen, hcell⟩ := World.cells?_some h1
        obtain ⟨xs, k, hk, hxy, _, hxl, hfl⟩ := DataW.trod_struct Try.underlying33 h2
        have hwi : ∀ n ∈ (D i).weights Try.prog 33, n ≤ reachBytes := fun n hn => by
          refine hwt n ?_
          rw [hx.1]
          simp only [DataW.weights, Try.underlying22, List.mem_cons, List.mem_append]
          exact .inr (.inl (weightsAll_mem (List.mem_map.2 ⟨i, by simpa using hi, rfl⟩) n hn))
        match cs', hlen, xs, hxl with
        | [v0, v1, v2, v3, v4, v5], _, [y0, y1, y2, y3, y4, y5], _ =>
          have g0 := hfl 0 _ rfl
          have g1 := hfl 1 _ rfl
          have g2 := hfl 2 _ rfl
          have g3 := hfl 3 _ rfl
          have g4 := hfl 4 _ rfl
          have g5 := hfl 5 _ rfl
          have c3 : Try.prog.cellsOf 3 = 1 := by kernel_rfl
          have c5 : Try.prog.cellsOf 5 = 1 := by kernel_rfl
          have c31 : Try.prog.cellsOf 31 = 1 := by kernel_rfl
          simp [c3, c5, c31] at g0 g1 g2 g3 g4 g5
          obtain ⟨n0, rfl, w0⟩ := int_trod Try.underlying3 g0
          obtain ⟨n1, rfl, w1⟩ := int_trod Try.underlying3 g1
          obtain ⟨n2, rfl, w2⟩ := int_trod Try.underlying5 g2
          obtain ⟨n3, rfl, w3⟩ := int_trod Try.underlying3 g3
          obtain ⟨n4, rfl, w4⟩ := int_trod Try.underlying3 g4
          have hb2 := bounds_u8 w2
          have hb4 := bounds_i64 w4
          obtain ⟨l5, hbs5, hl5⟩ := bs_trod Try.underlying31 Try.underlying5 (by kernel_rfl) (by kernel_rfl) g5 (fun n hn => by
            refine hwi n ?_
            have e : D i = DataW.agg [y0.1, y1.1, y2.1, y3.1, y4.1, y5.1] := by have := congrArg Prod.fst hxy; simpa using this
            rw [e]
            simp only [DataW.weights, Try.underlying33]
            refine DataW.weights_mem_each (j := 5) (t := 31) (d := y5.1) ?_ ?_ n hn
            · rfl
            · rfl)
          have e0 := hcell 0 (by omega)
          have e1 := hcell 1 (by omega)
          have e2 := hcell 2 (by omega)
          have e3 := hcell 3 (by omega)
          have e4 := hcell 4 (by omega)
          have e5 := hcell 5 (by omega)
          rw [Addr.add_lit, Addr.add_lit] at e0 e1 e2 e3 e4 e5
          refine ⟨⟨n0, n1, n2.toNat, n3, n4, l5⟩, v5, ⟨by simpa using e0, by simpa using e1, ?_, by simpa using e3, by simpa using e4, by simpa using e5, hbs5, by simp; omega, hb4.2, hl5⟩⟩
          rw [show ((n2.toNat : Nat) : Int) = n2 by omega]
          simpa using e2
      obtain ⟨q, hq⟩ := @Deep.choose_lt OpX ⟨⟨0, 0, 0, 0, 0, []⟩⟩ _ _ each
      refine ⟨(List.range len0).map q, ⟨some ⟨b, off, none⟩, cap0, by simp, by simp; omega, fun _ => ⟨b, off, rfl, fun i hi => ?_⟩⟩, by simpa using hll⟩
      simp at hi
      simpa using hq i hi
    · obtain rfl : len0 = 0 := by omega
      exact ⟨[], ⟨some a, cap0, rfl, by simp, by simp⟩, by simp⟩

end Go.Proofs.Ytjcobealnjkkcaa
