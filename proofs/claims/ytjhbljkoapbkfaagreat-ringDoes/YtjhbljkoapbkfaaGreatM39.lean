/- Contract: both rings are made. The step from a walk to a row, once for every law: a call that answers true and turns nothing that was there meets its row. Nothing here speaks of one program. Records as they came in. -/
import Derived.Test.YtjhbljkoapbkfaaGreatM38
import Derived.Test.YtjhbljkoapbkfaaGreatM1
import Derived.ProofKit
import Derived.OpenShut
import Derived.ShutString
import Derived.ChangeOld
import Derived.Lib.SmallJoins
import Derived.Test.YtjhbljkoapbkfaaGreatM24
import Derived.Deep.Slices
set_option linter.unusedSimpArgs false
set_option linter.unusedVariables false

namespace Go.Proofs.YtjhbljkoapbkfaaGreat
open Go.RowKit Go.Attic Go.Shelf

theorem opens_any {W w : World} {tb : Nat} {A B C : Nat → Prop} {g m gx n : Nat} {base blocks head0 : Int} {rv xv : Value} {s : St} (h : Ds W w tb A B C g m gx n base blocks head0 rv xv s) (hpl : s.pend.length ≤ 1000000) (head : Int) :
    Calls Tryz.prog 12 #[.pointer (some ⟨tb, 0, none⟩), .int .i64 head] w (OpensE W tb g m gx n base blocks head0 head s) := by
  obtain ⟨pa, Fa, a1, a2⟩ := h.a
  obtain ⟨qb, pb, Fb, b1, b2⟩ := h.b
  by_cases hk : okO n base blocks head
  · obtain ⟨h1, h2, h3, h4, h5, h6⟩ := hk
    obtain ⟨base', rfl⟩ := Int.eq_ofNat_of_zero_le h3
    obtain ⟨blocks', rfl⟩ := Int.eq_ofNat_of_zero_le (show 0 ≤ blocks by omega)
    obtain ⟨hd, rfl⟩ := Int.eq_ofNat_of_zero_le h5
    by_cases hon : s.on = true
    · exact opens_some h hon hpl (by omega) (by omega) (by omega) (by omega)
    · have hon' : s.on = false := by simpa using hon
      exact opens_none h (hd : Int) 5 (by decide) (fun V hV => open_off (a1.mono hV) hon' hpl base' blocks' hd (by omega) (by omega) (by omega) (by omega)) (fun V hV => ropen_off (b1.mono hV) hon' hpl base' blocks' hd (by omega) (by omega) (by omega) (by omega))
  · exact opens_none h head 1 (by decide) (fun V hV => open_arg (a1.mono hV) base blocks head hk) (fun V hV => ropen_arg (b1.mono hV) base blocks head hk)

def MadeE (W : World) (n : Int) (base blocks head0 : Int) (e : Ending) (w' : World) : Prop :=
  ∃ pv, e = .returned (.tuple #[pv, .bool true]) ∧ ((∃ (tb r g m x gx n' base' blocks' hd : Nat) (rs : List Rc) (A B C : Nat → Prop), pv = .pointer (some ⟨tb, 0, none⟩) ∧ base = (base' : Int) ∧ blocks = (blocks' : Int) ∧ head0 = (hd : Int) ∧ Tw W w' tb A B C r g m x gx n' base' blocks' head0 hd (newS n') rs hd (newS n') rs ∧ Scanned (secAt (newS n') base' blocks') hd (4 * blocks') rs) ∨
    (pv = .pointer none ∧ Below W.heap.size W w'))

set_option maxRecDepth 100000 in
set_option maxHeartbeats 1000000 in
theorem made_no (w : World) (n base blocks head0 : Int) (hn : ¬ (1 ≤ n ∧ n ≤ 2048)) : Calls Tryz.prog 4 #[.agg #[.int .i64 n, .int .i64 base, .int .i64 blocks, .int .i64 head0]] w (MadeE w n base blocks head0) := by
  obtain ⟨T, hT⟩ : ∃ T, w.heap.size = T := ⟨_, rfl⟩
  obtain ⟨w1, hw1⟩ : ∃ w1, w.alloc (.cells #[.int .i64 n, .int .i64 base, .int .i64 blocks, .int .i64 head0] 23) = w1 := ⟨_, rfl⟩
  have hb1 : Below w.heap.size w w1 := by rw [← hw1]; exact (Below.refl _ _).alloc (Nat.le_refl _) _
  have c0 : w1.cell? ⟨T, 0, none⟩ = some (.int .i64 n) := by rw [← hw1, ← hT]; simp
  have h1 := fun W => new_no n W hn
  have h2 := fun W => rnew_no n W hn
  go_enter Tryz.func4, Tryz.ntmps4
  go_wp2_with fail
  refine (h1 _).mono ?_
  rintro e w' ⟨rfl, rfl⟩
  go_wp2_with fail
  refine (h2 _).mono ?_
  rintro e w' ⟨rfl, rfl⟩
  go_wp2_with fail
  refine bodyPost_ret (v := .tuple #[.pointer none, .bool true]) (by simp [results, Tryz.results4, go_sem]) rfl ⟨_, rfl, .inr ⟨rfl, hb1⟩⟩

set_option maxRecDepth 100000 in
set_option maxHeartbeats 1000000 in
theorem made_yes (w : World) (n : Nat) (base blocks head0 : Int) (hn1 : 1 ≤ n) (hn2 : n ≤ 2048) : Calls Tryz.prog 4 #[.agg #[.int .i64 (n : Int), .int .i64 base, .int .i64 blocks, .int .i64 head0]] w (MadeE w (n : Int) base blocks head0) := by
  obtain ⟨T, hT⟩ : ∃ T, w.heap.size = T := ⟨_, rfl⟩
  obtain ⟨w1, hw1⟩ : ∃ w1, w.alloc (.cells #[.int .i64 (n : Int), .int .i64 base, .int .i64 blocks, .int .i64 head0] 23) = w1 := ⟨_, rfl⟩
  have hb1 : Below w.heap.size w w1 := by rw [← hw1]; exact (Below.refl _ _).alloc (Nat.le_refl _) _
  have c0 : w1.cell? ⟨T, 0, none⟩ = some (.int .i64 (n : Int)) := by rw [← hw1, ← hT]; simp
  have c1 : w1.cell? ⟨T, 1, none⟩ = some (.int .i64 base) := by rw [← hw1, ← hT]; simp
  have c2 : w1.cell? ⟨T, 2, none⟩ = some (.int .i64 blocks) := by rw [← hw1, ← hT]; simp
  have c3 : w1.cell? ⟨T, 3, none⟩ = some (.int .i64 head0) := by rw [← hw1, ← hT]; simp
  have h1 := new_yes n w1 hn1 hn2
  have hz1 : T < w1.heap.size := by rw [← hw1]; simp; omega
  go_enter Tryz.func4, Tryz.ntmps4
  go_wp2_with fail
  refine h1.mono ?_
  rintro e w2 ⟨g, m, rfl, hD2, hb2, hg2, hm2⟩
  have hz2 := hb2.size
  have d0 := (Keeps.of_below (S := fun _ => False) hb2).cell c0 id
  have d1 := (Keeps.of_below (S := fun _ => False) hb2).cell c1 id
  have d2 := (Keeps.of_below (S := fun _ => False) hb2).cell c2 id
  have d3 := (Keeps.of_below (S := fun _ => False) hb2).cell c3 id
  have h2 := rnew_yes n w2 hn1 hn2
  clear h1
  go_wp2_with fail
  refine h2.mono ?_
  rintro e w3 ⟨gx, qx, Fx, rfl, hX3, hb3, hgx3, hFx3⟩
  have hz3 := hb3.size
  have e0 := (Keeps.of_below (S := fun _ => False) hb3).cell d0 id
  have e1 := (Keeps.of_below (S := fun _ => False) hb3).cell d1 id
  have e2 := (Keeps.of_below (S := fun _ => False) hb3).cell d2 id
  have e3 := (Keeps.of_below (S := fun _ => False) hb3).cell d3 id
  obtain ⟨tb, htb⟩ : ∃ tb, w3.heap.size = tb := ⟨_, rfl⟩
  obtain ⟨w4, hw4⟩ : ∃ w4, w3.alloc (.cells #[.int .i64 (n : Int), .int .i64 base, .int .i64 blocks, .int .i64 head0, .pointer (some ⟨g, 0, none⟩), .pointer none, .pointer (some ⟨gx, 0, none⟩), .pointer none] 39) = w4 := ⟨_, rfl⟩
  have hb4 : Below w3.heap.size w3 w4 := by rw [← hw4]; exact (Below.refl _ _).alloc (Nat.le_refl _) _
  have hh4 : w4.heap[tb]? = some (.cells #[.int .i64 (n : Int), .int .i64 base, .int .i64 blocks, .int .i64 head0, .pointer (some ⟨g, 0, none⟩), .pointer none, .pointer (some ⟨gx, 0, none⟩), .pointer none] 39 (0, 0)) := by rw [← hw4, ← htb]; exact World.alloc_heap_new w3 _
  have hz4 : w4.heap.size = w3.heap.size + 1 := by rw [← hw4]; simp
  have f3 := (Keeps.of_below (S := fun _ => False) hb4).cell e3 id
  have ht4 : TAt w4 tb n base blocks head0 g gx (.pointer none) (.pointer none) := by
    refine ⟨?_, ?_, ?_, ?_, ?_, ?_, ?_, ?_, ?_, ?_⟩ <;> first | (unfold World.cell?; rw [hh4]; rfl) | (unfold World.frozen?; rw [hh4]; rfl)
  have hDs : Ds w w4 tb (fun k => w1.heap.size ≤ k ∧ k < w2.heap.size) (fun k => w2.heap.size ≤ k ∧ k < w3.heap.size) (fun _ => False) g m gx n base blocks head0 (.pointer none) (.pointer none) (newS n) := by
    have hgl := hD2.gl
    have hml := hD2.ml
    have hgxl := hX3.gl
    refine ⟨⟨none, _, (hD2.mono hb3).mono hb4, fun k hk => ?_⟩, ⟨qx, none, Fx, hX3.mono hb4, fun k hk => ?_⟩, ⟨fun k h1 h2 => by omega, fun k h1 h2 => h2, fun h => by omega, fun h => by omega, fun k hk => by omega, fun k hk => by omega, fun k hk => hk.elim, by omega, ?_⟩, ht4⟩
    · rcases hk with e | e | e
      · omega
      · omega
      · exact e.elim
    · rcases hk with e | e
      · omega
      · exact ⟨hFx3 k e, hX3.Fl k e⟩
    · exact ((hb1.trans (hb2.mono hb1.size)).trans (hb3.mono (by omega))).trans (hb4.mono (by omega))
  have hop := opens_any hDs (Nat.zero_le _) head0
  have HDs := hide hDs
  clear hDs hD2 hX3 hFx3 h2 hh4
  go_wp2_with fail
  refine hop.mono ?_
  rintro e w5 ⟨rfl, hres⟩
  rcases hres with ⟨r, x, base', blocks', hd, rs, A, B, C, rfl, rfl, rfl, hTw, hscn⟩ | ⟨ht, hbe⟩
  · have q5 := hTw.t.t5
    have q7 := hTw.t.t7
    have HTw := hide hTw
    have Hscn := hide hscn
    clear hTw hop hscn
    go_wp2_with fail
    refine bodyPost_ret (v := .tuple #[.pointer (some ⟨tb, 0, none⟩), .bool true]) (by simp [results, Tryz.results4, go_sem]) rfl ⟨_, rfl, .inl ⟨tb, r, g, m, x, gx, n, base', blocks', hd, rs, A, B, C, rfl, rfl, rfl, rfl, HTw.out, Hscn.out⟩⟩
  · have q5 := ht.t5
    have q7 := ht.t7
    clear ht hop
    go_wp2_with fail
    go_quiet (fail)
    go_wp2_with fail
    refine bodyPost_ret (v := .tuple #[.pointer none, .bool true]) (by simp [results, Tryz.results4, go_sem]) rfl ⟨_, rfl, .inr ⟨rfl, below_drewN hbe _⟩⟩

end Go.Proofs.YtjhbljkoapbkfaaGreat

namespace Go.Attic
open Go.ChangeShapes Go.WideShapes Go.ChangeAt Go.RowKit

theorem trodAll_below {H : Type} {enc : TypeId × Value → H} {P : Program} (hl : laidOutB P = true) {W W' : World} (hb : Below W.heap.size W W') :
    ∀ (ts : List TypeId) (vs : List Value) (ds : List (DataW H)) (ps : List MemPlace), (∀ t ∈ ts, P.readableRec t = true ∧ t < P.types.size) →
      DataW.TrodAll enc P W 0 (fun _ => true) true ts vs ds ps → DataW.TrodAll enc P W' 0 (fun b => decide (b < W.heap.size)) true ts vs ds ps
  | [], vs, ds, ps, _, h => by
    obtain ⟨rfl, rfl, rfl⟩ := trodAll_nil h
    exact trodAll_mk0
  | t :: ts, vs, ds, ps, ht, h => by
    obtain ⟨v, vs', d, ds', p, q, rfl, rfl, rfl, h1, h2⟩ := trodAll_cons h
    have hlt : ∀ x ∈ p, x.block < W.heap.size := by obtain ⟨m, hm⟩ := h1; exact DataW.trod_lt m _ _ _ hm
    exact trodAll_cons_mk (Below.trod hl (ht t (by simp)).1 (ht t (by simp)).2 h1 hb hlt) (trodAll_below hl hb ts vs' ds' q (fun u hu => ht u (by simp [hu])) h2)

theorem trodAll_length {H : Type} {enc : TypeId × Value → H} {P : Program} {W : World} {b : Nat} {sp : Nat → Bool} {held : Bool} :
    ∀ (ts : List TypeId) (vs : List Value) (ds : List (DataW H)) (ps : List MemPlace), DataW.TrodAll enc P W b sp held ts vs ds ps → ds.length = ts.length
  | [], vs, ds, ps, h => by obtain ⟨rfl, rfl, rfl⟩ := trodAll_nil h; rfl
  | t :: ts, vs, ds, ps, h => by
    obtain ⟨v, vs', d, ds', p, q, rfl, rfl, rfl, h1, h2⟩ := trodAll_cons h
    simp [trodAll_length ts vs' ds' q h2]

theorem law_frame {H : Type} {enc : TypeId × Value → H} {C : Checked} {os : Os} {F : FuncId} {fn : Func} {s : ChangeSpec} (hvars : s.vars = [])
    (own : ownKnob C.prog.godebug = none) (started : os.Started) (noInit : C.prog.inits.idxOf? F = none) (hfn : C.prog.funcs[F]? = some fn)
    (witness : ∃ (w : World) (tape : Tape) (i : Input), w.os = os ∧ (w.forCall tape i).Shaped C.prog ∧ i.vars = [] ∧ Input.okWide C.prog (w.forCall tape i) .any w.heap.size F i ∧
      s.pre6 enc C.prog fn [] false (w.forCall tape i).memory i.args ∧ ({} : Assume).holds C.prog (lone (Frame.enter C.prog F i.args .normal) [] (w.forCall tape i)))
    (hl : laidOutB C.prog = true) (hts : ∀ t ∈ fn.params.toList, C.prog.readableRec t = true ∧ t < C.prog.types.size)
    (tb : TypeId) (hres : fn.resultTypes = #[tb]) (hbool : C.prog.underlying tb = some .bool)
    (hspec : ∀ ds : List (DataW H), ds.length = fn.params.toList.length → s.fn H ds = { results := [.lit (.bool true)], args := ds })
    (walk : ∀ (W : World) (base : Nat) (args : Array Value) (ds : List (DataW H)) (p : List MemPlace),
      (∀ (j : Nat) t v, fn.params[j]? = some t → args[j]? = some v → Value.okWide C.prog W .any base t v) →
      DataW.TrodAll enc C.prog W 0 (fun _ => true) true fn.params.toList args.toList ds p →
      (DataW.weightsEach C.prog fn.params.toList ds).all (· ≤ reachBytes) = true →
      Calls C.prog F args W fun e W' => e = .returned (.bool true) ∧ Below W.heap.size W W') :
    ReturnsInHanded {} C os F .any (s.pre6 enc C.prog fn [] false) (s.post enc C.prog fn false true false false) := by
  refine returnsInHanded_of_change_sized own started noInit hfn witness ?_
  intro W base args ds gs before hval hW _ hsz _
  have hW' := hW
  obtain ⟨p, q, hA, hV, rfl, _, _⟩ := hW
  rw [hvars] at hV
  obtain ⟨rfl, rfl⟩ := trodVars_none hV
  have hsz' : (DataW.weightsEach C.prog fn.params.toList ds).all (· ≤ reachBytes) = true := by
    have e : s.plain.varTypes C.prog = [] := by
      have : s.plain.vars = [] := hvars
      simp [DataSpec.varTypes, this]
    rw [e] at hsz
    simpa using hsz
  have hn := trodAll_length _ _ _ _ hA
  refine (walk W base args ds p hval hA hsz').mono fun e W' ⟨he, bel⟩ => ?_
  subst he
  have hs : s.fn H (ds ++ []) = { results := [.lit (.bool true)], args := ds } := by rw [List.append_nil]; exact hspec ds hn
  refine ⟨_, rfl, ds, [], _, [], p, [], hW', ?_, ?_, ?_, bel.frame _, fun h => by cases h⟩
  · rw [hs, hres]
    exact trodAll_mk1 (shut_bool hbool true)
  · rw [hs]
    exact trodAll_below hl bel _ _ _ _ hts hA
  · rw [hs, hvars]
    rfl

/-- A slice of bytes that came in. -/
theorem Bs.came {H : Type} {enc : TypeId × Value → H} {P : Program} {W : World} {r : Reach} {base : Nat} {t e : TypeId} (ht : P.underlying t = some (.slice e)) (he : P.underlying e = some (.int .u8)) (hc : P.cellsOf e = 1)
    {v : Value} {d : DataW H} {p : List MemPlace} (hok : Value.okWide P W r base t v) (h : DataW.Trod enc P W 0 (fun _ => true) true t v d p) :
    ∃ l, Bs W v l ∧ (l = [] ∨ ∃ elems spare, d = .slice elems spare ∧ l.length ≤ elems.length) := by
  obtain ⟨a0, len0, cap0, rfl⟩ := okWide_slice ht hok
  obtain ⟨fuel, hf⟩ := h
  rcases open_ints ht he hc hf with ⟨hcs, _⟩ | ⟨x, l, c, zs, hcs, _, hl, hm, hz, hx, hcell, hwz⟩
  · simp [Value.cells] at hcs
    obtain ⟨rfl, rfl, rfl⟩ := hcs
    exact ⟨[], Bs.nil W, .inl rfl⟩
  · simp [Value.cells] at hcs
    obtain ⟨rfl, rfl, rfl⟩ := hcs
    simp at hz
    simp only [Prod.mk.injEq] at hx
    have hle : len0 ≤ zs.length := by omega
    have hw : ∀ n ∈ zs, 0 ≤ n ∧ n < 256 := fun n hn => by
      have := hwz n hn
      simp [Lit.wf, IntKind.min, IntKind.max, IntKind.signed, IntKind.bits] at this
      omega
    refine ⟨(zs.take len0).map Int.toNat, ⟨some x, cap0, by simp; omega, by simp; omega, by simp, ?_, ?_⟩, .inr ⟨_, _, hx.1, by simp [lits]⟩⟩
    · intro n hn
      simp only [List.mem_map] at hn
      obtain ⟨z, hz1, rfl⟩ := hn
      have := hw z (List.mem_of_mem_take hz1)
      omega
    · intro hp
      have hlen : ((zs.take len0).map Int.toNat).length = len0 := by simp; omega
      rw [hlen] at hp ⊢
      obtain ⟨b, off, spot⟩ := x
      have hspot : spot = Option.none := by simpa [Addr.add] using World.cell?_spot (hcell 0 (by omega))
      subst hspot
      refine ⟨b, off, rfl, fun i hi => ?_⟩
      have h1 := hcell i (by omega)
      rw [Addr.add_lit] at h1
      rw [h1]
      have h2 := hw (zs.getD i 0) (by rw [List.getD_eq_getElem?_getD, List.getElem?_eq_getElem (by omega)]; exact List.getElem_mem _)
      have h3 : ((zs.take len0).map Int.toNat).getD i 0 = (zs.getD i 0).toNat := by
        simp [List.getD_eq_getElem?_getD, hi, List.getElem?_eq_getElem (show i < zs.length by omega)]
      rw [h3]
      congr 2
      omega

/-- Its length, by the form's own reach. -/
theorem came_len {H : Type} {P : Program} {ts : List TypeId} {ds : List (DataW H)} (h : (DataW.weightsEach P ts ds).all (· ≤ reachBytes) = true) {j : Nat} {t e : TypeId} {d : DataW H} (ht : ts[j]? = some t) (hd : ds[j]? = some d)
    (hu : P.underlying t = some (.slice e)) (hb : P.bytesOf e = 1) {l : List Nat} (hl : l = [] ∨ ∃ elems spare, d = .slice elems spare ∧ l.length ≤ elems.length) : l.length ≤ 140737488351232 := by
  rcases hl with rfl | ⟨elems, spare, rfl, hle⟩
  · simp
  · have := sized_slice h ht hd hu
    rw [hb] at this
    simp only [reachBytes] at this
    omega

end Go.Attic

namespace Go.Proofs.YtjhbljkoapbkfaaGreat
open Go.RowKit Go.Attic Go.ChangeShapes Go.WideShapes
/-- Some bytes, from their reading alone. -/
theorem bs_trod {H : Type} {enc : TypeId × Value → H} {P : Program} {W : World} {t e : TypeId} (ht : P.underlying t = some (.slice e)) (he : P.underlying e = some (.int .u8)) (hc : P.cellsOf e = 1) (hb : P.bytesOf e = 1)
    {v : Value} {x : DataW H × List MemPlace} {fuel : Nat} (h : DataW.trod enc P W 0 (fun _ => true) true fuel t [v] = some x) (hw : ∀ n ∈ x.1.weights P t, n ≤ reachBytes) : ∃ l, Bs W v l ∧ l.length ≤ 140737488355328 := by
  rcases open_ints ht he hc h with ⟨hcs, _⟩ | ⟨a, len, cap, zs, hcs, _, hl, hm, hz, hx, hcell, hwz⟩
  · obtain rfl : v = .slice none 0 0 := by simpa using hcs
    exact ⟨[], Bs.nil W, by simp⟩
  · obtain rfl : v = .slice (some a) len cap := by simpa using hcs
    simp at hz
    have hle : len ≤ zs.length := by omega
    have hw2 : ∀ n ∈ zs, 0 ≤ n ∧ n < 256 := fun n hn => by
      have := hwz n hn
      simp [Lit.wf, IntKind.min, IntKind.max, IntKind.signed, IntKind.bits] at this
      omega
    have hlen : ((zs.take len).map Int.toNat).length = len := by simp; omega
    refine ⟨(zs.take len).map Int.toNat, ⟨some a, cap, by rw [hlen], by omega, by simp, ?_, ?_⟩, ?_⟩
    · intro n hn
      simp only [List.mem_map] at hn
      obtain ⟨z, hz1, rfl⟩ := hn
      have := hw2 z (List.mem_of_mem_take hz1)
      omega
    · intro hp
      rw [hlen] at hp ⊢
      obtain ⟨b, off, spot⟩ := a
      have hspot : spot = Option.none := by simpa [Addr.add] using World.cell?_spot (hcell 0 (by omega))
      subst hspot
      refine ⟨b, off, rfl, fun i hi => ?_⟩
      have h1 := hcell i (by omega)
      rw [Addr.add_lit] at h1
      rw [h1]
      have h2 := hw2 (zs.getD i 0) (by rw [List.getD_eq_getElem?_getD, List.getElem?_eq_getElem (by omega)]; exact List.getElem_mem _)
      have h3 : ((zs.take len).map Int.toNat).getD i 0 = (zs.getD i 0).toNat := by
        simp [List.getD_eq_getElem?_getD, hi, List.getElem?_eq_getElem (show i < zs.length by omega)]
      rw [h3]
      congr 2
      omega
    · rw [hlen]
      rw [hx] at hw
      have := hw (((lits IntKind.u8 (zs.take len)).length + (lits IntKind.u8 (zs.drop len)).length) * P.bytesOf e) (by simp only [DataW.weights, ht]; exact List.mem_cons_self)
      rw [hb] at this
      simp [lits, reachBytes] at this
      omega

theorem weightsAll_mem {H : Type} {P : Program} {e : TypeId} {l : List (DataW H)} {d : DataW H} (hd : d ∈ l) : ∀ n ∈ d.weights P e, n ∈ DataW.weightsAll P e l := by
  induction l with
  | nil => simp at hd
  | cons x l ih =>
    intro n hn
    simp only [DataW.weightsAll, List.mem_append]
    rcases List.mem_cons.1 hd with rfl | h
    · exact .inl hn
    · exact .inr (ih h n hn)

theorem int_trod {H : Type} {enc : TypeId × Value → H} {P : Program} {W : World} {t : TypeId} {k : IntKind} (ht : P.underlying t = some (.int k)) {v : Value} {x : DataW H × List MemPlace} {fuel : Nat} (h : DataW.trod enc P W 0 (fun _ => true) true fuel t [v] = some x) :
    ∃ n, v = .int k n ∧ (Lit.int k n).wf = true := by
  obtain ⟨n, h1, _, h2⟩ := DataW.trod_int ht h
  exact ⟨n, by simpa using h1, h2⟩

theorem Tryz.cells52 : Tryz.prog.cellsOf 52 = 5 := by kernel_rfl

set_option maxRecDepth 100000 in
set_option maxHeartbeats 1000000 in
theorem rs_trod {H : Type} {enc : TypeId × Value → H} {W : World} {v : Value} {x : DataW H × List MemPlace} {fuel : Nat} (hf : DataW.trod enc Tryz.prog W 0 (fun _ => true) true fuel 29 [v] = some x) (hwt : ∀ n ∈ x.1.weights Tryz.prog 29, n ≤ reachBytes) :
    ∃ rs, Rs W (fun k => k < W.heap.size) v rs ∧ rs.length ≤ 140737488355328 ∧ (∀ r ∈ rs, r.l.length ≤ 140737488355328) ∧ ∀ n c, v = .slice none n c → c = 0 := by
  have hce := Tryz.cells52
  rcases Deep.open_slice Tryz.underlying29 hf with ⟨hcs, _⟩ | ⟨a, len, cap, m, n, D, Pl, hcs, _, hl, hm, hmm, hx, hel⟩
  · obtain rfl : v = .slice none 0 0 := by simpa using hcs
    exact ⟨[], Rs.nil W _, by simp, by simp, fun n c e => by injection e with _ _ e; exact e.symm⟩
  · obtain rfl : v = .slice (some a) len cap := by simpa using hcs
    simp at hmm
    have hll : len ≤ 140737488355328 := by
      have hbe : Tryz.prog.bytesOf 52 = 56 := by kernel_rfl
      have := hwt ((((List.range len).map D).length + ((List.range (m - len)).map fun j => D (len + j)).length) * Tryz.prog.bytesOf 52) (by rw [hx]; simp only [DataW.weights, Tryz.underlying29]; exact List.mem_cons_self)
      rw [hbe] at this
      simp [reachBytes] at this
      omega
    by_cases hp : 0 < len
    · obtain ⟨b, off, spot⟩ := a
      have hspot : spot = Option.none := by
        obtain ⟨cs', h1, _⟩ := hel 0 (by omega)
        rw [hce] at h1
        obtain ⟨_, hlen, hcell⟩ := World.cells?_some h1
        have e0 := hcell 0 (by omega)
        rw [List.getElem?_eq_getElem (by omega)] at e0
        have := World.cell?_spot e0
        simpa [Addr.add] using this
      subst hspot
      have each : ∀ i, i < len → ∃ q : Rc × Value, RcAt W b (off + i * 5) q.1 q.2 ∧ Bs W q.2 q.1.l ∧ q.1.l.length ≤ 140737488355328 := by
        intro i hi
        obtain ⟨cs', h1, h2⟩ := hel i (by omega)
        rw [hce] at h1
        obtain ⟨_, hlen, hcell⟩ := World.cells?_some h1
        obtain ⟨xs, k, hk, hxy, _, hxl, hfl⟩ := DataW.trod_struct Tryz.underlying52 h2
        have hwi : ∀ n ∈ (D i).weights Tryz.prog 52, n ≤ reachBytes := fun n hn => by
          refine hwt n ?_
          rw [hx]
          simp only [DataW.weights, Tryz.underlying29, List.mem_cons, List.mem_append]
          exact .inr (.inl (weightsAll_mem (List.mem_map.2 ⟨i, by simpa using hi, rfl⟩) n hn))
        match cs', hlen, xs, hxl with
        | [v0, v1, v2, v3, v4], _, [y0, y1, y2, y3, y4], _ =>
          have g0 := hfl 0 _ rfl
          have g1 := hfl 1 _ rfl
          have g2 := hfl 2 _ rfl
          have g3 := hfl 3 _ rfl
          have g4 := hfl 4 _ rfl
          have c3 : Tryz.prog.cellsOf 3 = 1 := by kernel_rfl
          have c23 : Tryz.prog.cellsOf 30 = 1 := by kernel_rfl
          simp [c3, c23] at g0 g1 g2 g3 g4
          obtain ⟨n0, rfl, w0⟩ := int_trod Tryz.underlying3 g0
          obtain ⟨n1, rfl, w1⟩ := int_trod Tryz.underlying3 g1
          obtain ⟨n2, rfl, w2⟩ := int_trod Tryz.underlying3 g2
          obtain ⟨n4, rfl, w4⟩ := int_trod Tryz.underlying3 g4
          obtain ⟨l3, hbs3, hl3⟩ := bs_trod Tryz.underlying30 Tryz.underlying5 (by kernel_rfl) (by kernel_rfl) g3 (fun n hn => by
            refine hwi n ?_
            have e : D i = DataW.agg [y0.1, y1.1, y2.1, y3.1, y4.1] := by have := congrArg Prod.fst hxy; simpa using this
            rw [e]
            simp only [DataW.weights, Tryz.underlying52]
            refine DataW.weights_mem_each (j := 3) (t := 30) (d := y3.1) ?_ ?_ n hn
            · rfl
            · rfl)
          have e0 := hcell 0 (by omega)
          have e1 := hcell 1 (by omega)
          have e2 := hcell 2 (by omega)
          have e3 := hcell 3 (by omega)
          have e4 := hcell 4 (by omega)
          rw [Addr.add_lit, Addr.add_lit] at e0 e1 e2 e3 e4
          exact ⟨(⟨n0, n1, n2, n4, l3⟩, v3), ⟨by simpa using e0, by simpa using e1, by simpa using e2, by simpa using e3, by simpa using e4⟩, hbs3, hl3⟩
      obtain ⟨q, hq⟩ := @Deep.choose_lt (Rc × Value) ⟨(⟨0, 0, 0, 0, []⟩, .slice none 0 0)⟩ _ _ each
      have hbl : b < W.heap.size := by have := World.block_lt_of_cell? W _ (hq 0 hp).1.c0; simpa using this
      refine ⟨(List.range len).map fun i => (q i).1, ⟨some ⟨b, off, none⟩, cap, (List.range len).map fun i => (q i).2, by simp, by simp; omega, by simp, fun _ => ⟨b, off, rfl, hbl, fun i hi hv => ?_⟩, fun i hi hv => ?_⟩, by simpa using hll, fun r hr => ?_, fun n c e => by cases e⟩
      · simp at hi
        simpa using (hq i hi).1
      · simp at hi
        have := (hq i hi).2.1
        refine ⟨by simpa using this, fun hp' k hk => ?_⟩
        simp at hp' hk
        exact bs_lt2 this (by simpa using hp') k hk
      · simp only [List.mem_map, List.mem_range] at hr
        obtain ⟨i, hi, rfl⟩ := hr
        exact (hq i hi).2.2
    · obtain rfl : len = 0 := by omega
      exact ⟨[], ⟨some a, cap, [], rfl, by simp, rfl, by simp, by simp⟩, by simp, by simp, fun n c e => by cases e⟩

set_option maxRecDepth 100000 in
set_option maxHeartbeats 400000 in
theorem rs_came {H : Type} {enc : TypeId × Value → H} {W : World} {base : Nat} {v : Value} {d : DataW H} {p : List MemPlace} {ts : List TypeId} {ds : List (DataW H)} {j : Nat} (hok : Value.okWide Tryz.prog W .any base 29 v)
    (h : DataW.Trod enc Tryz.prog W 0 (fun _ => true) true 29 v d p) (hsz : (DataW.weightsEach Tryz.prog ts ds).all (· ≤ reachBytes) = true) (ht : ts[j]? = some 29) (hd : ds[j]? = some d) :
    ∃ rs, Rs W (fun k => k < W.heap.size) v rs ∧ rs.length ≤ 140737488355328 ∧ (∀ r ∈ rs, r.l.length ≤ 140737488355328) ∧ ∀ n c, v = .slice none n c → c = 0 := by
  obtain ⟨a0, len0, cap0, rfl⟩ := okWide_slice Tryz.underlying29 hok
  obtain ⟨fuel, hf⟩ := h
  exact rs_trod hf (fun n hn => by
    have := List.all_eq_true.1 hsz _ (DataW.weights_mem_each ht hd n hn)
    simpa using this)


end Go.Proofs.YtjhbljkoapbkfaaGreat
