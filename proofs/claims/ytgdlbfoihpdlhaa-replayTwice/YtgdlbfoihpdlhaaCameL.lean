/- Records as they came in. -/
import Derived.Test.YtgdlbfoihpdlhaaL3
import Derived.Test.YtgdlbfoihpdlhaaFrame
import Derived.Deep.Slices
set_option linter.unusedSimpArgs false
set_option linter.unusedVariables false
namespace Go.Proofs.Ytgdlbfoihpdlhaa
open Go.RowKit Go.Attic Go.ChangeShapes Go.WideShapes
/-- Some bytes, from their reading alone. -/
theorem bs_trod {H : Type} {enc : TypeId × Value → H} {P : Program} {W : World} {t e : TypeId} (ht : P.underlying t = some (.slice e)) (he : P.underlying e = some (.int .u8)) (hc : P.cellsOf e = 1) (hb : P.bytesOf e = 1)
    {v : Value} {x : DataW H × List MemPlace} {fuel : Nat} (h : DataW.trod enc P W 0 (fun _ => true) true fuel t [v] = some x) (hw : ∀ n ∈ x.1.weights P t, n ≤ reachBytes) : ∃ l, Bs W v l ∧ l.length ≤ 140737488355328 := by
  rcases open_ints ht he hc h with ⟨hcs, _⟩ | ⟨a, len, cap, zs, hcs, _, hl, hm, hz, hx, hcell, hwz⟩
  · obtain rfl : v = .slice none 0 0 := by simpa using hcs
    exact ⟨[], Bs.nil W, by simp⟩
  · obtain rfl : v = .slice (some a) len cap := by simpa using hcs
    simp at hz
    have hle : len ≤ zs.length := by omega
    have hw2 : ∀ n ∈ zs, 0 ≤ n ∧ n < 256 := fun n hn => by
      have := hwz n hn
      simp [Lit.wf, IntKind.min, IntKind.max, IntKind.signed, IntKind.bits] at this
      omega
    have hlen : ((zs.take len).map Int.toNat).length = len := by simp; omega
    refine ⟨(zs.take len).map Int.toNat, ⟨some a, cap, by rw [hlen], by omega, by simp, ?_, ?_⟩, ?_⟩
    · intro n hn
      simp only [List.mem_map] at hn
      obtain ⟨z, hz1, rfl⟩ := hn
      have := hw2 z (List.mem_of_mem_take hz1)
      omega
    · intro hp
      rw [hlen] at hp ⊢
      obtain ⟨b, off, spot⟩ := a
      have hspot : spot = Option.none := by simpa [Addr.add] using World.cell?_spot (hcell 0 (by omega))
      subst hspot
      refine ⟨b, off, rfl, fun i hi => ?_⟩
      have h1 := hcell i (by omega)
      rw [Addr.add_lit] at h1
      rw [h1]
      have h2 := hw2 (zs.getD i 0) (by rw [List.getD_eq_getElem?_getD, List.getElem?_eq_getElem (by omega)]; exact List.getElem_mem _)
      have h3 : ((zs.take len).map Int.toNat).getD i 0 = (zs.getD i 0).toNat := by
        simp [List.getD_eq_getElem?_getD, hi, List.getElem?_eq_getElem (show i < zs.length by omega)]
      rw [h3]
      congr 2
      omega
    · rw [hlen]
      rw [hx] at hw
      have := hw (((lits IntKind.u8 (zs.take len)).length + (lits IntKind.u8 (zs.drop len)).length) * P.bytesOf e) (by simp only [DataW.weights, ht]; exact List.mem_cons_self)
      rw [hb] at this
      simp [lits, reachBytes] at this
      omega

theorem weightsAll_mem {H : Type} {P : Program} {e : TypeId} {l : List (DataW H)} {d : DataW H} (hd : d ∈ l) : ∀ n ∈ d.weights P e, n ∈ DataW.weightsAll P e l := by
  induction l with
  | nil => simp at hd
  | cons x l ih =>
    intro n hn
    simp only [DataW.weightsAll, List.mem_append]
    rcases List.mem_cons.1 hd with rfl | h
    · exact .inl hn
    · exact .inr (ih h n hn)

theorem int_trod {H : Type} {enc : TypeId × Value → H} {P : Program} {W : World} {t : TypeId} {k : IntKind} (ht : P.underlying t = some (.int k)) {v : Value} {x : DataW H × List MemPlace} {fuel : Nat} (h : DataW.trod enc P W 0 (fun _ => true) true fuel t [v] = some x) :
    ∃ n, v = .int k n ∧ (Lit.int k n).wf = true := by
  obtain ⟨n, h1, _, h2⟩ := DataW.trod_int ht h
  exact ⟨n, by simpa using h1, h2⟩

theorem Try.cells48 : Try.prog.cellsOf 48 = 5 := by kernel_rfl

set_option maxRecDepth 100000 in
set_option maxHeartbeats 1000000 in
theorem rs_trod {H : Type} {enc : TypeId × Value → H} {W : World} {v : Value} {x : DataW H × List MemPlace} {fuel : Nat} (hf : DataW.trod enc Try.prog W 0 (fun _ => true) true fuel 22 [v] = some x) (hwt : ∀ n ∈ x.1.weights Try.prog 22, n ≤ reachBytes) :
    ∃ rs, Rs W (fun k => k < W.heap.size) v rs ∧ rs.length ≤ 140737488355328 ∧ (∀ r ∈ rs, r.l.length ≤ 140737488355328) ∧ ∀ n c, v = .slice none n c → c = 0 := by
  have hce := Try.cells48
  rcases Deep.open_slice Try.underlying22 hf with ⟨hcs, _⟩ | ⟨a, len, cap, m, n, D, Pl, hcs, _, hl, hm, hmm, hx, hel⟩
  · obtain rfl : v = .slice none 0 0 := by simpa using hcs
    exact ⟨[], Rs.nil W _, by simp, by simp, fun n c e => by injection e with _ _ e; exact e.symm⟩
  · obtain rfl : v = .slice (some a) len cap := by simpa using hcs
    simp at hmm
    have hll : len ≤ 140737488355328 := by
      have hbe : Try.prog.bytesOf 48 = 56 := by kernel_rfl
      have := hwt ((((List.range len).map D).length + ((List.range (m - len)).map fun j => D (len + j)).length) * Try.prog.bytesOf 48) (by rw [hx]; simp only [DataW.weights, Try.underlying22]; exact List.mem_cons_self)
      rw [hbe] at this
      simp [reachBytes] at this
      omega
    by_cases hp : 0 < len
    · obtain ⟨b, off, spot⟩ := a
      have hspot : spot = Option.none := by
        obtain ⟨cs', h1, _⟩ := hel 0 (by omega)
        rw [hce] at h1
        obtain ⟨_, hlen, hcell⟩ := World.cells?_some h1
        have e0 := hcell 0 (by omega)
        rw [List.getElem?_eq_getElem (by omega)] at e0
        have := World.cell?_spot e0
        simpa [Addr.add] using this
      subst hspot
      have each : ∀ i, i < len → ∃ q : Rc × Value, RcAt W b (off + i * 5) q.1 q.2 ∧ Bs W q.2 q.1.l ∧ q.1.l.length ≤ 140737488355328 := by
        intro i hi
        obtain ⟨cs', h1, h2⟩ := hel i (by omega)
        rw [hce] at h1
        obtain ⟨_, hlen, hcell⟩ := World.cells?_some h1
        obtain ⟨xs, k, hk, hxy, _, hxl, hfl⟩ := DataW.trod_struct Try.underlying48 h2
        have hwi : ∀ n ∈ (D i).weights Try.prog 48, n ≤ reachBytes := fun n hn => by
          refine hwt n ?_
          rw [hx]
          simp only [DataW.weights, Try.underlying22, List.mem_cons, List.mem_append]
          exact .inr (.inl (weightsAll_mem (List.mem_map.2 ⟨i, by simpa using hi, rfl⟩) n hn))
        match cs', hlen, xs, hxl with
        | [v0, v1, v2, v3, v4], _, [y0, y1, y2, y3, y4], _ =>
          have g0 := hfl 0 _ rfl
          have g1 := hfl 1 _ rfl
          have g2 := hfl 2 _ rfl
          have g3 := hfl 3 _ rfl
          have g4 := hfl 4 _ rfl
          have c3 : Try.prog.cellsOf 3 = 1 := by kernel_rfl
          have c23 : Try.prog.cellsOf 37 = 1 := by kernel_rfl
          simp [c3, c23] at g0 g1 g2 g3 g4
          obtain ⟨n0, rfl, w0⟩ := int_trod Try.underlying3 g0
          obtain ⟨n1, rfl, w1⟩ := int_trod Try.underlying3 g1
          obtain ⟨n2, rfl, w2⟩ := int_trod Try.underlying3 g2
          obtain ⟨n4, rfl, w4⟩ := int_trod Try.underlying3 g4
          obtain ⟨l3, hbs3, hl3⟩ := bs_trod Try.underlying37 Try.underlying5 (by kernel_rfl) (by kernel_rfl) g3 (fun n hn => by
            refine hwi n ?_
            have e : D i = DataW.agg [y0.1, y1.1, y2.1, y3.1, y4.1] := by have := congrArg Prod.fst hxy; simpa using this
            rw [e]
            simp only [DataW.weights, Try.underlying48]
            refine DataW.weights_mem_each (j := 3) (t := 37) (d := y3.1) ?_ ?_ n hn
            · rfl
            · rfl)
          have e0 := hcell 0 (by omega)
          have e1 := hcell 1 (by omega)
          have e2 := hcell 2 (by omega)
          have e3 := hcell 3 (by omega)
          have e4 := hcell 4 (by omega)
          rw [Addr.add_lit, Addr.add_lit] at e0 e1 e2 e3 e4
          exact ⟨(⟨n0, n1, n2, n4, l3⟩, v3), ⟨by simpa using e0, by simpa using e1, by simpa using e2, by simpa using e3, by simpa using e4⟩, hbs3, hl3⟩
      obtain ⟨q, hq⟩ := @Deep.choose_lt (Rc × Value) ⟨(⟨0, 0, 0, 0, []⟩, .slice none 0 0)⟩ _ _ each
      have hbl : b < W.heap.size := by have := World.block_lt_of_cell? W _ (hq 0 hp).1.c0; simpa using this
      refine ⟨(List.range len).map fun i => (q i).1, ⟨some ⟨b, off, none⟩, cap, (List.range len).map fun i => (q i).2, by simp, by simp; omega, by simp, fun _ => ⟨b, off, rfl, hbl, fun i hi hv => ?_⟩, fun i hi hv => ?_⟩, by simpa using hll, fun r hr => ?_, fun n c e => by cases e⟩
      · simp at hi
        simpa using (hq i hi).1
      · simp at hi
        have := (hq i hi).2.1
        refine ⟨by simpa using this, fun hp' k hk => ?_⟩
        simp at hp' hk
        exact bs_lt2 this (by simpa using hp') k hk
      · simp only [List.mem_map, List.mem_range] at hr
        obtain ⟨i, hi, rfl⟩ := hr
        exact (hq i hi).2.2
    · obtain rfl : len = 0 := by omega
      exact ⟨[], ⟨some a, cap, [], rfl, by simp, rfl, by simp, by simp⟩, by simp, by simp, fun n c e => by cases e⟩

set_option maxRecDepth 100000 in
set_option maxHeartbeats 400000 in
theorem rs_came {H : Type} {enc : TypeId × Value → H} {W : World} {base : Nat} {v : Value} {d : DataW H} {p : List MemPlace} {ts : List TypeId} {ds : List (DataW H)} {j : Nat} (hok : Value.okWide Try.prog W .any base 22 v)
    (h : DataW.Trod enc Try.prog W 0 (fun _ => true) true 22 v d p) (hsz : (DataW.weightsEach Try.prog ts ds).all (· ≤ reachBytes) = true) (ht : ts[j]? = some 22) (hd : ds[j]? = some d) :
    ∃ rs, Rs W (fun k => k < W.heap.size) v rs ∧ rs.length ≤ 140737488355328 ∧ (∀ r ∈ rs, r.l.length ≤ 140737488355328) ∧ ∀ n c, v = .slice none n c → c = 0 := by
  obtain ⟨a0, len0, cap0, rfl⟩ := okWide_slice Try.underlying22 hok
  obtain ⟨fuel, hf⟩ := h
  exact rs_trod hf (fun n hn => by
    have := List.all_eq_true.1 hsz _ (DataW.weights_mem_each ht hd n hn)
    simpa using this)


end Go.Proofs.Ytgdlbfoihpdlhaa
