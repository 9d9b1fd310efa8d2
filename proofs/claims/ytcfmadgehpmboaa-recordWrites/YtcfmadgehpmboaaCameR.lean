/- A record as it came in by value. -/
import Derived.Test.YtcfmadgehpmboaaFrame
import Derived.Test.YtcfmadgehpmboaaR16
import Derived.Lib.SmallJoins
set_option linter.unusedSimpArgs false
set_option linter.unusedVariables false
namespace Go.Proofs.Ytcfmadgehpmboaa
open Go.ChangeShapes Go.WideShapes Go.ChangeAt Go.RowKit Go.Joins Go.Deep Go.Attic

theorem Try.cells3 : Try.prog.cellsOf 3 = 1 := by kernel_rfl
theorem Try.cells5 : Try.prog.cellsOf 5 = 1 := by kernel_rfl
theorem Try.cells24 : Try.prog.cellsOf 24 = 5 := by kernel_rfl

/-- Some bytes, from their reading alone. -/
theorem bs_trod {H : Type} {enc : TypeId × Value → H} {P : Program} {W : World} {t e : TypeId} (ht : P.underlying t = some (.slice e)) (he : P.underlying e = some (.int .u8)) (hc : P.cellsOf e = 1) (hb : P.bytesOf e = 1)
    {v : Value} {x : DataW H × List MemPlace} {fuel : Nat} (h : DataW.trod enc P W 0 (fun _ => true) true fuel t [v] = some x) (hw : ∀ n ∈ x.1.weights P t, n ≤ reachBytes) : ∃ l, Bs W v l ∧ l.length ≤ 140737488355328 := by
  rcases open_ints ht he hc h with ⟨hcs, _⟩ | ⟨a, len, cap, zs, hcs, _, hl, hm, hz, hx, hcell, hwz⟩
  · obtain rfl : v = .slice none 0 0 := by simpa using hcs
    exact ⟨[], Bs.nil W, by simp⟩
  · obtain rfl : v = .slice (some a) len cap := by simpa using hcs
    simp at hz
    have hle : len ≤ zs.length := by omega
    have hw2 : ∀ n ∈ zs, 0 ≤ n ∧ n < 256 := fun n hn => by
      have := hwz n hn
      simp [Lit.wf, IntKind.min, IntKind.max, IntKind.signed, IntKind.bits] at this
      omega
    have hlen : ((zs.take len).map Int.toNat).length = len := by simp; omega
    refine ⟨(zs.take len).map Int.toNat, ⟨some a, cap, by rw [hlen], by omega, by simp, ?_, ?_⟩, ?_⟩
    · intro n hn
      simp only [List.mem_map] at hn
      obtain ⟨z, hz1, rfl⟩ := hn
      have := hw2 z (List.mem_of_mem_take hz1)
      omega
    · intro hp
      rw [hlen] at hp ⊢
      obtain ⟨b, off, spot⟩ := a
      have hspot : spot = Option.none := by simpa [Addr.add] using World.cell?_spot (hcell 0 (by omega))
      subst hspot
      refine ⟨b, off, rfl, fun i hi => ?_⟩
      have h1 := hcell i (by omega)
      rw [Addr.add_lit] at h1
      rw [h1]
      have h2 := hw2 (zs.getD i 0) (by rw [List.getD_eq_getElem?_getD, List.getElem?_eq_getElem (by omega)]; exact List.getElem_mem _)
      have h3 : ((zs.take len).map Int.toNat).getD i 0 = (zs.getD i 0).toNat := by
        simp [List.getD_eq_getElem?_getD, hi, List.getElem?_eq_getElem (show i < zs.length by omega)]
      rw [h3]
      congr 2
      omega
    · rw [hlen]
      rw [hx] at hw
      have := hw (((lits IntKind.u8 (zs.take len)).length + (lits IntKind.u8 (zs.drop len)).length) * P.bytesOf e) (by simp only [DataW.weights, ht]; exact List.mem_cons_self)
      rw [hb] at this
      simp [lits, reachBytes] at this
      omega

theorem array5 {α : Type} {cs : Array α} (h : cs.size = 5) : ∃ x0 x1 x2 x3 x4, cs = #[x0, x1, x2, x3, x4] := by
  obtain ⟨l⟩ := cs
  match l, h with
  | [x0, x1, x2, x3, x4], _ => exact ⟨x0, x1, x2, x3, x4, rfl⟩

theorem cameR {H : Type} {enc : TypeId × Value → H} {W : World} {b0 : Nat} {v : Value} {d : DataW H} {p : List MemPlace} {ts : List TypeId} {ds : List (DataW H)} {j : Nat}
    (hok : Value.okWide Try.prog W .any b0 24 v) (h : DataW.Trod enc Try.prog W 0 (fun _ => true) true 24 v d p) (hsz : (DataW.weightsEach Try.prog ts ds).all (· ≤ reachBytes) = true) (ht : ts[j]? = some 24) (hd : ds[j]? = some d) :
    ∃ (k b o m : Int) (vs : Value) (L : List Nat), v = .agg #[.int .i64 k, .int .i64 b, .int .i64 o, vs, .int .i64 m] ∧ Bs W vs L ∧ L.length ≤ 140737488355328 := by
  obtain ⟨cs, rfl, hs⟩ := okWide_struct Try.underlying24 hok
  obtain ⟨x0, x1, x2, x3, x4, rfl⟩ := array5 (hs.trans Try.cells24)
  obtain ⟨fuel, hf⟩ := h
  have hwt : ∀ n ∈ d.weights Try.prog 24, n ≤ reachBytes := fun n hn => by
    have := List.all_eq_true.1 hsz _ (DataW.weights_mem_each ht hd n hn)
    simpa using this
  obtain ⟨xs, n, _, hxx, hl, hlen, hq⟩ := DataW.trod_struct Try.underlying24 hf
  match xs, hlen with
  | [y0, y1, y2, y3, y4], _ =>
    have t0 := hq 0 _ rfl
    have t1 := hq 1 _ rfl
    have t2 := hq 2 _ rfl
    have t3 := hq 3 _ rfl
    have t4 := hq 4 _ rfl
    simp [Try.cells3, Try.cells22, Value.cells] at t0 t1 t2 t3 t4
    obtain ⟨n0, e0, -, -⟩ := DataW.trod_int Try.underlying3 t0
    obtain ⟨n1, e1, -, -⟩ := DataW.trod_int Try.underlying3 t1
    obtain ⟨n2, e2, -, -⟩ := DataW.trod_int Try.underlying3 t2
    obtain ⟨n4, e4, -, -⟩ := DataW.trod_int Try.underlying3 t4
    simp at e0 e1 e2 e4
    subst e0 e1 e2 e4
    obtain ⟨L, hbs, hl3⟩ := bs_trod Try.underlying22 Try.underlying5 Try.cells5 (by kernel_rfl) t3 (fun n hn => by
      refine hwt n ?_
      have e : d = DataW.agg [y0.1, y1.1, y2.1, y3.1, y4.1] := by have := congrArg Prod.fst hxx; simpa using this
      rw [e]
      simp only [DataW.weights, Try.underlying24]
      refine DataW.weights_mem_each (j := 3) (t := 22) (d := y3.1) ?_ ?_ n hn
      · rfl
      · rfl)
    exact ⟨n0, n1, n2, n4, x3, L, rfl, hbs, hl3⟩

end Go.Proofs.Ytcfmadgehpmboaa
