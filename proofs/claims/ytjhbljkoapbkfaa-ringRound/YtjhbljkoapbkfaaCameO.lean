/- A script's operations as they came in. -/
import Derived.Test.YtjhbljkoapbkfaaCameL
set_option linter.unusedSimpArgs false
set_option linter.unusedVariables false
namespace Go.Proofs.Ytjhbljkoapbkfaa
open Go.RowKit Go.Attic Go.ChangeShapes Go.WideShapes

structure OpX where
  d : Int
  L : List Rc
  n : Int
  picks : List Nat

/-- An operation of a script stands at a place. -/
structure OpAt (w : World) (F : Nat → Prop) (bl o : Nat) (x : OpX) (vl vp : Value) : Prop where
  c0 : w.cell? ⟨bl, o, none⟩ = some (.int .i64 x.d)
  c1 : w.cell? ⟨bl, o + 1, none⟩ = some vl
  c2 : w.cell? ⟨bl, o + 2, none⟩ = some (.int .i64 x.n)
  c3 : w.cell? ⟨bl, o + 3, none⟩ = some vp
  rs : Rs w F vl x.L
  rn : ∀ n c, vl = .slice none n c → c = 0
  bs : Bs w vp x.picks
  bF : 0 < x.picks.length → ∀ k, vp.ownBlock = some k → F k
  ll : x.L.length ≤ 140737488355328
  ls : ∀ r ∈ x.L, r.l.length ≤ 140737488355328
  n0 : -9223372036854775808 ≤ x.n
  n1 : x.n ≤ 9223372036854775807
  pl : x.picks.length ≤ 140737488355328
  bl : F bl

/-- The slice value v holds the operations l; what is read for them lies in F. -/
def Ops (w : World) (F : Nat → Prop) (v : Value) (l : List OpX) : Prop :=
  ∃ ao cap, v = .slice ao l.length cap ∧ l.length ≤ cap ∧ (0 < l.length → ∃ b off, ao = some ⟨b, off, none⟩ ∧ ∀ i (hi : i < l.length), ∃ vl vp, OpAt w F b (off + i * 4) l[i] vl vp)

theorem OpAt.keeps {S F : Nat → Prop} {w w' : World} {bl o : Nat} {x : OpX} {vl vp : Value} (h : OpAt w F bl o x vl vp) (hk : Keeps S w w') (hS : ∀ k, F k → ¬ S k) : OpAt w' F bl o x vl vp :=
  ⟨hk.cell h.c0 (hS _ h.bl), hk.cell h.c1 (hS _ h.bl), hk.cell h.c2 (hS _ h.bl), hk.cell h.c3 (hS _ h.bl), h.rs.keeps hk hS, h.rn, keeps_bs hk h.bs (fun hp b hb => hS b (h.bF hp b hb)), h.bF, h.ll, h.ls, h.n0, h.n1, h.pl, h.bl⟩

theorem Ops.nil (w : World) (F : Nat → Prop) : Ops w F (.slice none 0 0) [] := ⟨none, 0, rfl, Nat.le_refl _, by simp⟩

set_option maxRecDepth 100000 in
set_option maxHeartbeats 1000000 in
theorem Ops.came {H : Type} {enc : TypeId × Value → H} {W : World} {base : Nat} {v : Value} {d : DataW H} {p : List MemPlace} {ts : List TypeId} {ds : List (DataW H)} {j : Nat} (hok : Value.okWide Try.prog W .any base 38 v)
    (h : DataW.Trod enc Try.prog W 0 (fun _ => true) true 38 v d p) (hsz : (DataW.weightsEach Try.prog ts ds).all (· ≤ reachBytes) = true) (ht : ts[j]? = some 38) (hd : ds[j]? = some d) : ∃ l, Ops W (fun k => k < W.heap.size) v l ∧ l.length ≤ 140737488355328 := by
  obtain ⟨a0, len0, cap0, rfl⟩ := okWide_slice Try.underlying38 hok
  obtain ⟨fuel, hf⟩ := h
  have hce : Try.prog.cellsOf 41 = 4 := by kernel_rfl
  have hwt : ∀ n ∈ d.weights Try.prog 38, n ≤ reachBytes := fun n hn => by
    have := List.all_eq_true.1 hsz _ (DataW.weights_mem_each ht hd n hn)
    simpa using this
  rcases Deep.open_slice Try.underlying38 hf with ⟨hcs, _⟩ | ⟨a, len, cap, m, n, D, Pl, hcs, _, hl, hm, hmm, hx, hel⟩
  · simp [Value.cells] at hcs
    obtain ⟨rfl, rfl, rfl⟩ := hcs
    exact ⟨[], Ops.nil W _, by simp⟩
  · simp [Value.cells] at hcs
    obtain ⟨rfl, rfl, rfl⟩ := hcs
    simp at hmm
    simp only [Prod.mk.injEq] at hx
    have hll : len0 ≤ 140737488355328 := by
      have hbe : Try.prog.bytesOf 41 = 64 := by kernel_rfl
      have := hwt ((((List.range len0).map D).length + ((List.range (m - len0)).map fun j => D (len0 + j)).length) * Try.prog.bytesOf 41) (by rw [hx.1]; simp only [DataW.weights, Try.underlying38]; exact List.mem_cons_self)
      rw [hbe] at this
      simp [reachBytes] at this
      omega
    by_cases hp : 0 < len0
    · obtain ⟨b, off, spot⟩ := a
      have hspot : spot = Option.none := by
        obtain ⟨cs', h1, _⟩ := hel 0 (by omega)
        rw [hce] at h1
        obtain ⟨_, hlen, hcell⟩ := World.cells?_some h1
        have e0 := hcell 0 (by omega)
        rw [List.getElem?_eq_getElem (by omega)] at e0
        have := World.cell?_spot e0
        simpa [Addr.add] using this
      subst hspot
      have each : ∀ i, i < len0 → ∃ q : OpX, ∃ vl vp, OpAt W (fun k => k < W.heap.size) b (off + i * 4) q vl vp := by
        intro i hi
        obtain ⟨cs', h1, h2⟩ := hel i (by omega)
        rw [hce] at h1
        obtain ⟨_, hlen, hcell⟩ := World.cells?_some h1
        obtain ⟨xs, k, hk, hxy, _, hxl, hfl⟩ := DataW.trod_struct Try.underlying41 h2
        have hwi : ∀ n ∈ (D i).weights Try.prog 41, n ≤ reachBytes := fun n hn => by
          refine hwt n ?_
          rw [hx.1]
          simp only [DataW.weights, Try.underlying38, List.mem_cons, List.mem_append]
          exact .inr (.inl (weightsAll_mem (List.mem_map.2 ⟨i, by simpa using hi, rfl⟩) n hn))
        match cs', hlen, xs, hxl with
        | [v0, v1, v2, v3], _, [y0, y1, y2, y3], _ =>
          have g0 := hfl 0 _ rfl
          have g1 := hfl 1 _ rfl
          have g2 := hfl 2 _ rfl
          have g3 := hfl 3 _ rfl
          have c2 : Try.prog.cellsOf 2 = 1 := by kernel_rfl
          have c3 : Try.prog.cellsOf 3 = 1 := by kernel_rfl
          have c22 : Try.prog.cellsOf 22 = 1 := by kernel_rfl
          have c23 : Try.prog.cellsOf 23 = 1 := by kernel_rfl
          simp [c2, c3, c22, c23] at g0 g1 g2 g3
          obtain ⟨n0, rfl, w0⟩ := int_trod Try.underlying3 g0
          obtain ⟨n2, rfl, w2⟩ := int_trod Try.underlying2 g2
          have hb2 := bounds_i64 w2
          have e : D i = DataW.agg [y0.1, y1.1, y2.1, y3.1] := by have := congrArg Prod.fst hxy; simpa using this
          obtain ⟨l1, hrs1, hl1, hls1, hn1⟩ := rs_trod g1 (fun n hn => by
            refine hwi n ?_
            rw [e]
            simp only [DataW.weights, Try.underlying41]
            refine DataW.weights_mem_each (j := 1) (t := 22) (d := y1.1) ?_ ?_ n hn
            · rfl
            · rfl)
          obtain ⟨l3, hbs3, hl3⟩ := bs_trod Try.underlying23 Try.underlying5 (by kernel_rfl) (by kernel_rfl) g3 (fun n hn => by
            refine hwi n ?_
            rw [e]
            simp only [DataW.weights, Try.underlying41]
            refine DataW.weights_mem_each (j := 3) (t := 23) (d := y3.1) ?_ ?_ n hn
            · rfl
            · rfl)
          have e0 := hcell 0 (by omega)
          have e1 := hcell 1 (by omega)
          have e2 := hcell 2 (by omega)
          have e3 := hcell 3 (by omega)
          rw [Addr.add_lit, Addr.add_lit] at e0 e1 e2 e3
          have hbl : b < W.heap.size := by have := World.block_lt_of_cell? W _ e0; simpa using this
          exact ⟨⟨n0, l1, n2, l3⟩, v1, v3, ⟨by simpa using e0, by simpa using e1, by simpa using e2, by simpa using e3, hrs1, hn1, hbs3, fun hp k hk => bs_lt2 hbs3 hp k hk, hl1, hls1, hb2.1, hb2.2, hl3, hbl⟩⟩
      obtain ⟨q, hq⟩ := @Deep.choose_lt OpX ⟨⟨0, [], 0, []⟩⟩ _ _ each
      refine ⟨(List.range len0).map q, ⟨some ⟨b, off, none⟩, cap0, by simp, by simp; omega, fun _ => ⟨b, off, rfl, fun i hi => ?_⟩⟩, by simpa using hll⟩
      simp at hi
      simpa using hq i hi
    · obtain rfl : len0 = 0 := by omega
      exact ⟨[], ⟨some a, cap0, rfl, by simp, by simp⟩, by simp⟩

end Go.Proofs.Ytjhbljkoapbkfaa
