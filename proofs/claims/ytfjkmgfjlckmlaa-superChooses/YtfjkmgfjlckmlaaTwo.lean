/- Two blocks as they came in by value; the two rows of bytes that they make. -/
import Derived.Test.YtfjkmgfjlckmlaaS13
import Derived.Test.YtfjkmgfjlckmlaaCameS
set_option linter.unusedSimpArgs false
set_option linter.unusedVariables false
namespace Go.Proofs.Ytfjkmgfjlckmlaa
open Go.ChangeShapes Go.WideShapes Go.ChangeAt Go.RowKit Go.Joins Go.Deep Go.Attic

theorem Try.cells4 : Try.prog.cellsOf 4 = 1 := by kernel_rfl
theorem Try.cells5 : Try.prog.cellsOf 5 = 1 := by kernel_rfl
theorem Try.cells41 : Try.prog.cellsOf 41 = 16 := by kernel_rfl

/-- Some bytes, from their reading alone. -/
theorem bs_trod {H : Type} {enc : TypeId × Value → H} {P : Program} {W : World} {t e : TypeId} (ht : P.underlying t = some (.slice e)) (he : P.underlying e = some (.int .u8)) (hc : P.cellsOf e = 1) (hb : P.bytesOf e = 1)
    {v : Value} {x : DataW H × List MemPlace} {fuel : Nat} (h : DataW.trod enc P W 0 (fun _ => true) true fuel t [v] = some x) (hw : ∀ n ∈ x.1.weights P t, n ≤ reachBytes) : ∃ l, Bs W v l ∧ l.length ≤ 140737488355328 := by
  rcases open_ints ht he hc h with ⟨hcs, _⟩ | ⟨a, len, cap, zs, hcs, _, hl, hm, hz, hx, hcell, hwz⟩
  · obtain rfl : v = .slice none 0 0 := by simpa using hcs
    exact ⟨[], Bs.nil W, by simp⟩
  · obtain rfl : v = .slice (some a) len cap := by simpa using hcs
    simp at hz
    have hle : len ≤ zs.length := by omega
    have hw2 : ∀ n ∈ zs, 0 ≤ n ∧ n < 256 := fun n hn => by
      have := hwz n hn
      simp [Lit.wf, IntKind.min, IntKind.max, IntKind.signed, IntKind.bits] at this
      omega
    have hlen : ((zs.take len).map Int.toNat).length = len := by simp; omega
    refine ⟨(zs.take len).map Int.toNat, ⟨some a, cap, by rw [hlen], by omega, by simp, ?_, ?_⟩, ?_⟩
    · intro n hn
      simp only [List.mem_map] at hn
      obtain ⟨z, hz1, rfl⟩ := hn
      have := hw2 z (List.mem_of_mem_take hz1)
      omega
    · intro hp
      rw [hlen] at hp ⊢
      obtain ⟨b, off, spot⟩ := a
      have hspot : spot = Option.none := by simpa [Addr.add] using World.cell?_spot (hcell 0 (by omega))
      subst hspot
      refine ⟨b, off, rfl, fun i hi => ?_⟩
      have h1 := hcell i (by omega)
      rw [Addr.add_lit] at h1
      rw [h1]
      have h2 := hw2 (zs.getD i 0) (by rw [List.getD_eq_getElem?_getD, List.getElem?_eq_getElem (by omega)]; exact List.getElem_mem _)
      have h3 : ((zs.take len).map Int.toNat).getD i 0 = (zs.getD i 0).toNat := by
        simp [List.getD_eq_getElem?_getD, hi, List.getElem?_eq_getElem (show i < zs.length by omega)]
      rw [h3]
      congr 2
      omega
    · rw [hlen]
      rw [hx] at hw
      have := hw (((lits IntKind.u8 (zs.take len)).length + (lits IntKind.u8 (zs.drop len)).length) * P.bytesOf e) (by simp only [DataW.weights, ht]; exact List.mem_cons_self)
      rw [hb] at this
      simp [lits, reachBytes] at this
      omega

theorem array16 {α : Type} {cs : Array α} (h : cs.size = 16) : ∃ x0 x1 x2 x3 x4 x5 x6 x7 x8 x9 x10 x11 x12 x13 x14 x15, cs = #[x0, x1, x2, x3, x4, x5, x6, x7, x8, x9, x10, x11, x12, x13, x14, x15] := by
  obtain ⟨l⟩ := cs
  match l, h with
  | [x0, x1, x2, x3, x4, x5, x6, x7, x8, x9, x10, x11, x12, x13, x14, x15], _ => exact ⟨x0, x1, x2, x3, x4, x5, x6, x7, x8, x9, x10, x11, x12, x13, x14, x15, rfl⟩

theorem cameT {H : Type} {enc : TypeId × Value → H} {W : World} {b0 : Nat} {v : Value} {d : DataW H} {p : List MemPlace} {ts : List TypeId} {ds : List (DataW H)} {j : Nat}
    (hok : Value.okWide Try.prog W .any b0 41 v) (h : DataW.Trod enc Try.prog W 0 (fun _ => true) true 41 v d p) (hsz : (DataW.weightsEach Try.prog ts ds).all (· ≤ reachBytes) = true) (ht : ts[j]? = some 41) (hd : ds[j]? = some d) :
    ∃ (a0 a1 a2 a3 a4 a5 b0 b1 b2 b3 b4 b5 : Int) (tn : Bool) (ix by_ : Nat) (vs : Value) (L : List Nat), v = .agg #[.int .i64 a0, .int .i64 a1, .int .i64 a2, .int .i64 a3, .int .i64 a4, .int .i64 a5, .int .i64 b0, .int .i64 b1, .int .i64 b2, .int .i64 b3, .int .i64 b4, .int .i64 b5, .bool tn, .int .u8 (ix : Nat), .int .u8 (by_ : Nat), vs] ∧ (-9223372036854775808 ≤ a1 ∧ a1 ≤ 9223372036854775807) ∧ (-9223372036854775808 ≤ b1 ∧ b1 ≤ 9223372036854775807) ∧ ix < 256 ∧ by_ < 256 ∧ Bs W vs L ∧ L.length ≤ 140737488355328 := by
  obtain ⟨cs, rfl, hs⟩ := okWide_struct Try.underlying41 hok
  obtain ⟨x0, x1, x2, x3, x4, x5, x6, x7, x8, x9, x10, x11, x12, x13, x14, x15, rfl⟩ := array16 (hs.trans Try.cells41)
  obtain ⟨fuel, hf⟩ := h
  have hwt : ∀ n ∈ d.weights Try.prog 41, n ≤ reachBytes := fun n hn => by
    have := List.all_eq_true.1 hsz _ (DataW.weights_mem_each ht hd n hn)
    simpa using this
  obtain ⟨xs, n, _, hxx, hl, hlen, hq⟩ := DataW.trod_struct Try.underlying41 hf
  match xs, hlen with
  | [y0, y1, y2, y3, y4, y5], _ =>
    have t0 := hq 0 _ rfl
    have t1 := hq 1 _ rfl
    have t2 := hq 2 _ rfl
    have t3 := hq 3 _ rfl
    have t4 := hq 4 _ rfl
    have t5 := hq 5 _ rfl
    have c34 : Try.prog.cellsOf 34 = 1 := by kernel_rfl
    simp [Try.cells25, Try.cells4, Try.cells5, c34, Value.cells] at t0 t1 t2 t3 t4 t5
    obtain ⟨a0, a1, a2, a3, a4, a5, ea, ka⟩ := trod25 t0
    obtain ⟨b0, b1, b2, b3, b4, b5, eb, kb⟩ := trod25 t1
    simp only [List.cons.injEq] at ea eb
    obtain ⟨rfl, rfl, rfl, rfl, rfl, rfl, -⟩ := ea
    obtain ⟨rfl, rfl, rfl, rfl, rfl, rfl, -⟩ := eb
    obtain ⟨tn, e2, -⟩ := DataW.trod_bool Try.underlying4 t2
    obtain ⟨n3, e3, -, w3⟩ := DataW.trod_int Try.underlying5 t3
    obtain ⟨n4, e4, -, w4⟩ := DataW.trod_int Try.underlying5 t4
    simp at e2 e3 e4
    subst e2 e3 e4
    have h3 := bounds_u8 w3
    have h4 := bounds_u8 w4
    obtain ⟨L, hbs, hl5⟩ := bs_trod Try.underlying34 Try.underlying5 Try.cells5 (by kernel_rfl) t5 (fun n hn => by
      refine hwt n ?_
      have e : d = DataW.agg [y0.1, y1.1, y2.1, y3.1, y4.1, y5.1] := by have := congrArg Prod.fst hxx; simpa using this
      rw [e]
      simp only [DataW.weights, Try.underlying41]
      refine DataW.weights_mem_each (j := 5) (t := 34) (d := y5.1) ?_ ?_ n hn
      · rfl
      · rfl)
    refine ⟨a0, a1, a2, a3, a4, a5, b0, b1, b2, b3, b4, b5, tn, n3.toNat, n4.toNat, x15, L, ?_, ka.2.1, kb.2.1, by omega, by omega, hbs, hl5⟩
    rw [show ((n3.toNat : Nat) : Int) = n3 by omega, show ((n4.toNat : Nat) : Int) = n4 by omega]

/-- Two blocks in their cells. -/
structure TwoAt (w : World) (g : Nat) (x0 x1 x2 x3 x4 x5 x6 x7 x8 x9 x10 x11 x12 x13 x14 x15 : Value) : Prop where
  c0 : w.cell? ⟨g, 0, none⟩ = some x0
  c1 : w.cell? ⟨g, 1, none⟩ = some x1
  c2 : w.cell? ⟨g, 2, none⟩ = some x2
  c3 : w.cell? ⟨g, 3, none⟩ = some x3
  c4 : w.cell? ⟨g, 4, none⟩ = some x4
  c5 : w.cell? ⟨g, 5, none⟩ = some x5
  c6 : w.cell? ⟨g, 6, none⟩ = some x6
  c7 : w.cell? ⟨g, 7, none⟩ = some x7
  c8 : w.cell? ⟨g, 8, none⟩ = some x8
  c9 : w.cell? ⟨g, 9, none⟩ = some x9
  c10 : w.cell? ⟨g, 10, none⟩ = some x10
  c11 : w.cell? ⟨g, 11, none⟩ = some x11
  c12 : w.cell? ⟨g, 12, none⟩ = some x12
  c13 : w.cell? ⟨g, 13, none⟩ = some x13
  c14 : w.cell? ⟨g, 14, none⟩ = some x14
  c15 : w.cell? ⟨g, 15, none⟩ = some x15
  lt : g < w.heap.size
theorem TwoAt.mono {w w' : World} {g : Nat} {x0 x1 x2 x3 x4 x5 x6 x7 x8 x9 x10 x11 x12 x13 x14 x15 : Value} (h : TwoAt w g x0 x1 x2 x3 x4 x5 x6 x7 x8 x9 x10 x11 x12 x13 x14 x15) (hb : Below w.heap.size w w') : TwoAt w' g x0 x1 x2 x3 x4 x5 x6 x7 x8 x9 x10 x11 x12 x13 x14 x15 := by
  refine ⟨?_, ?_, ?_, ?_, ?_, ?_, ?_, ?_, ?_, ?_, ?_, ?_, ?_, ?_, ?_, ?_, Nat.lt_of_lt_of_le h.lt hb.size⟩
  · rw [hb.cell (p := ⟨g, 0, none⟩) h.lt]; exact h.c0
  · rw [hb.cell (p := ⟨g, 1, none⟩) h.lt]; exact h.c1
  · rw [hb.cell (p := ⟨g, 2, none⟩) h.lt]; exact h.c2
  · rw [hb.cell (p := ⟨g, 3, none⟩) h.lt]; exact h.c3
  · rw [hb.cell (p := ⟨g, 4, none⟩) h.lt]; exact h.c4
  · rw [hb.cell (p := ⟨g, 5, none⟩) h.lt]; exact h.c5
  · rw [hb.cell (p := ⟨g, 6, none⟩) h.lt]; exact h.c6
  · rw [hb.cell (p := ⟨g, 7, none⟩) h.lt]; exact h.c7
  · rw [hb.cell (p := ⟨g, 8, none⟩) h.lt]; exact h.c8
  · rw [hb.cell (p := ⟨g, 9, none⟩) h.lt]; exact h.c9
  · rw [hb.cell (p := ⟨g, 10, none⟩) h.lt]; exact h.c10
  · rw [hb.cell (p := ⟨g, 11, none⟩) h.lt]; exact h.c11
  · rw [hb.cell (p := ⟨g, 12, none⟩) h.lt]; exact h.c12
  · rw [hb.cell (p := ⟨g, 13, none⟩) h.lt]; exact h.c13
  · rw [hb.cell (p := ⟨g, 14, none⟩) h.lt]; exact h.c14
  · rw [hb.cell (p := ⟨g, 15, none⟩) h.lt]; exact h.c15
theorem TwoAt.keeps {w w' : World} {S : Nat → Prop} {g : Nat} {x0 x1 x2 x3 x4 x5 x6 x7 x8 x9 x10 x11 x12 x13 x14 x15 : Value} (h : TwoAt w g x0 x1 x2 x3 x4 x5 x6 x7 x8 x9 x10 x11 x12 x13 x14 x15) (k : Keeps S w w') (hg : ¬ S g) : TwoAt w' g x0 x1 x2 x3 x4 x5 x6 x7 x8 x9 x10 x11 x12 x13 x14 x15 :=
  ⟨k.cell h.c0 hg, k.cell h.c1 hg, k.cell h.c2 hg, k.cell h.c3 hg, k.cell h.c4 hg, k.cell h.c5 hg, k.cell h.c6 hg, k.cell h.c7 hg, k.cell h.c8 hg, k.cell h.c9 hg, k.cell h.c10 hg, k.cell h.c11 hg, k.cell h.c12 hg, k.cell h.c13 hg, k.cell h.c14 hg, k.cell h.c15 hg, Nat.lt_of_lt_of_le h.lt k.size⟩

end Go.Proofs.Ytfjkmgfjlckmlaa
