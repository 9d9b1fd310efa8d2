/- Contract: Open, where the power is on. -/
import Derived.Test.YtjhbljkoapbkfaaL6
set_option linter.unusedSimpArgs false
set_option linter.unusedVariables false
namespace Go.Proofs.Ytjhbljkoapbkfaa
open Go.RowKit Go.Attic Go.Shelf

attribute [local go_sem] Oper.semAt_some

theorem results_slots3 {P : Program} {fn : Func} {p q r : Tmp} (h : fn.results = #[.tmp p, .tmp q, .tmp r]) (tmps : Array Value) (w : World) (v1 v2 v3 : Value) (h1 : tmps.getD p undef = v1) (h2 : tmps.getD q undef = v2) (h3 : tmps.getD r undef = v3) :
    (results fn tmps).run P w = .ok (.tuple #[v1, v2, v3]) w := by
  simp only [results, h]
  simp only [Array.getD_eq_getD_getElem?] at h1 h2 h3
  simp [Sem.run_bind, Result.andThen, h1, h2, h3]

theorem owns_apart {w : World} {b1 b2 : Nat} {e1 e2 : TypeId} {s1 s2 n1 n2 : Nat} {v1 v2 : Value} {x1 x2 : List Value} (h1 : w.ownsRow b1 e1 s1 v1 n1 x1) (h2 : w.ownsRow b2 e2 s2 v2 n2 x2) (he : e1 ≠ e2) {b : Nat} (k1 : v1.ownBlock = some b) (k2 : v2.ownBlock = some b) : False := by
  rcases h1.2 with ⟨e, _⟩ | ⟨g, c, cur, e, _, hg, _⟩
  · rw [e] at k1; cases k1
  · rcases h2.2 with ⟨e', _⟩ | ⟨g', c', cur', e', _, hg', _⟩
    · rw [e'] at k2; cases k2
    · rw [e] at k1
      rw [e'] at k2
      have q1 : g = b := by simpa [Value.ownBlock] using k1
      have q2 : g' = b := by simpa [Value.ownBlock] using k2
      rw [q1] at hg
      rw [q2, hg] at hg'
      injection hg' with hg'
      injection hg' with _ hg' _
      exact he hg'

set_option maxRecDepth 100000 in
set_option maxHeartbeats 1000000 in
theorem open_on {w : World} {g m : Nat} {p : Option Nat} {F : Nat → Prop} {n : Nat} {s : St} (h : Dk w g m p F n s) (hon : s.on = true) (hpl : s.pend.length ≤ 1000000) (base blocks head : Nat) (h1 : 1 ≤ blocks) (h2 : blocks ≤ 256) (h3 : base + blocks ≤ n) (hh : head ≤ 1152921504606846976) :
    Calls Try.prog 9 #[.pointer (some ⟨g, 0, none⟩), .int .i64 (base : Int), .int .i64 (blocks : Int), .int .i64 (head : Int)] w fun e w' => ∃ rs r v Fr, e = .returned (.tuple #[.pointer (some ⟨r, 0, none⟩), v, .int .i64 0]) ∧
      Scanned (secAt s base blocks) head (4 * blocks) rs ∧ Rk w' r g base blocks head Fr rs ∧ w.heap.size ≤ r ∧ (∀ k, Fr k → w.heap.size ≤ k) ∧ Rs w' (fun k => w.heap.size ≤ k) v rs ∧ Below w.heap.size w w' := by
  obtain ⟨i0, hi, hz0, hz1', hz2'⟩ := info_parts Try.info62
  have hn1 := h.ok.n1
  have hn2 := h.ok.n2
  have hgl := h.gl
  have hlen := fun w (h : Dk w g m p F n s) => len_yes h
  have hsz := fun w => gSize_any (blocks : Int) w
  have hhd := fun w => gHead_any (head : Int) w
  rw [decide_eq_true (show (1 : Int) ≤ (blocks : Int) ∧ (blocks : Int) ≤ 256 by omega)] at hsz
  rw [decide_eq_true (show (0 : Int) ≤ (head : Int) ∧ (head : Int) ≤ 1152921504606846976 by omega)] at hhd
  obtain ⟨w1, hw1⟩ : ∃ w1, w.alloc (.cells #[.pointer (some ⟨g, 0, none⟩), .int .i64 (base : Int), .int .i64 (blocks : Int)] 47) = w1 := ⟨_, rfl⟩
  have hb1 : Below w.heap.size w w1 := by rw [← hw1]; exact (Below.refl _ w).alloc (Nat.le_refl _) _
  have hz1 : w1.heap.size = w.heap.size + 1 := by rw [← hw1]; simp
  have t0 : w1.heap[w.heap.size]? = some (.cells #[.pointer (some ⟨g, 0, none⟩), .int .i64 (base : Int), .int .i64 (blocks : Int)] 47 (0, 0)) := by rw [← hw1]; exact World.alloc_heap_new w _
  have tc : ∀ W : World, W.heap[w.heap.size]? = some (.cells #[.pointer (some ⟨g, 0, none⟩), .int .i64 (base : Int), .int .i64 (blocks : Int)] 47 (0, 0)) → W.cell? ⟨w.heap.size, 0, none⟩ = some (.pointer (some ⟨g, 0, none⟩)) ∧ W.cell? ⟨w.heap.size, 1, none⟩ = some (.int .i64 (base : Int)) ∧ W.cell? ⟨w.heap.size, 2, none⟩ = some (.int .i64 (blocks : Int)) := by
    intro W hW
    refine ⟨?_, ?_, ?_⟩ <;> (unfold World.cell?; rw [hW]; rfl)
  obtain ⟨c0, c1, c2⟩ := tc w1 t0
  have hload := load_on (h.mono hb1) hon hpl base blocks head h1 h2 h3 hh
  have hbs : (base : Int) ≤ (n : Int) - (blocks : Int) := by omega
  have Hw1 := hide hw1
  have Hh := hide h
  refine (callsIn_wide (n := 3)).1 ?_
  refine callsIn_of_wp_marks Try.func9 rfl trivial ?_ rfl
  simp only [Try.ntmps9, List.size_toArray, List.length_cons, List.length_nil, Nat.reduceAdd, Nat.reduceSub, Array.replicate_succ, Array.replicate_zero, List.push_toArray, List.append_toArray, List.nil_append, List.cons_append]
  gi_wp2
  refine ⟨trivial, (callsIn_wide.2 (hlen _ h)).mono ?_⟩
  rintro e w' ⟨rfl, rfl⟩
  have hn0 : ((n : Int) == 0) = false := by simp; omega
  gi_wp2
  refine ⟨trivial, (callsIn_wide.2 (hsz _)).mono ?_⟩
  rintro e w' ⟨rfl, rfl⟩
  gi_wp2
  refine ⟨trivial, (callsIn_wide.2 (hlen _ h)).mono ?_⟩
  rintro e w' ⟨rfl, rfl⟩
  gi_wp2
  refine ⟨trivial, (callsIn_wide.2 (hhd _)).mono ?_⟩
  rintro e w' ⟨rfl, rfl⟩
  gi_wp2
  refine ⟨trivial, (callsIn_wide.2 hload).mono ?_⟩
  rintro e w2 ⟨rs, p2, v2, vs2, rfl, hsc, hrw2, hb2⟩
  obtain ⟨ao2, cap2, rfl⟩ := owns_slice hrw2.row
  have t2 := (hb2.block w.heap.size (by omega)).trans t0
  obtain ⟨d0, d1, d2⟩ := tc w2 t2
  have hz2 : w.heap.size + 1 ≤ w2.heap.size := by have := hb2.size; omega
  obtain ⟨w4, hw4⟩ : ∃ w4, (w2.alloc (.cells #[.pointer (some ⟨g, 0, none⟩), .int .i64 (base : Int), .int .i64 (blocks : Int), .int .i64 (head : Int), .slice ao2 rs.length cap2] 49)).alloc (.cells #[.slice none 0 0] 22) = w4 := ⟨_, rfl⟩
  have hb4 : Below w2.heap.size w2 w4 := by rw [← hw4]; exact ((Below.refl _ _).alloc (Nat.le_refl _) _).alloc (by simp) _
  have hz4 : w4.heap.size = w2.heap.size + 2 := by rw [← hw4]; simp
  have q0 : w4.heap[w2.heap.size]? = some (.cells #[.pointer (some ⟨g, 0, none⟩), .int .i64 (base : Int), .int .i64 (blocks : Int), .int .i64 (head : Int), .slice ao2 rs.length cap2] 49 (0, 0)) := by
    rw [← hw4, Below.heap_alloc _ _ _ (by simp)]; exact World.alloc_heap_new w2 _
  have q1 : Boxed w4 (w2.heap.size + 1) 22 (.slice none 0 0) := by
    rw [← hw4]; simpa using Boxed.new (w2.alloc (.cells #[.pointer (some ⟨g, 0, none⟩), .int .i64 (base : Int), .int .i64 (blocks : Int), .int .i64 (head : Int), .slice ao2 rs.length cap2] 49)) 22 (.slice none 0 0)
  have hrw4 := (hrw2.narrow.mono hb4)
  have hR4 : Rk w4 w2.heap.size g base blocks head (fun k => w1.heap.size ≤ k ∧ k < w2.heap.size) rs := by
    refine ⟨?_, ?_, ?_, ?_, ⟨p2, _, vs2, ?_, hrw4⟩, ?_, ?_, fun hh => by omega, fun k hk => by omega, h1, h2, by omega, hh, hsc.2.1, fun x hx => ?_⟩
    · unfold World.cell?; rw [q0]; rfl
    · unfold World.cell?; rw [q0]; rfl
    · unfold World.cell?; rw [q0]; rfl
    · unfold World.cell?; rw [q0]; rfl
    · unfold World.cell?; rw [q0]; rfl
    · unfold World.frozen?; rw [q0]; rfl
    · unfold World.frozen?; rw [q0]; rfl
    · obtain ⟨i, hi', rfl⟩ := List.getElem_of_mem hx
      exact (hsc.1 i hi').ok.1
  have hall := all_yes hR4
  have Hsc := hide hsc
  have Hrw2 := hide hrw2
  have Hrw4 := hide hrw4
  have HR4 := hide hR4
  have Hq0 := hide q0
  have Hz1 := hide hz1
  have Hhd := hide hhd
  clear hsc hrw2 hrw4 hR4 q0 hload c0 c1 c2 t0 t2 hlen hsz hhd hw1 h hz1
  gi_wp2
  refine ⟨trivial, (callsIn_wide.2 hall).mono ?_⟩
  rintro e V ⟨f, rfl, ⟨ba, bf, va, vsa, rfl, hba, hbf, hBa, hBf, hrowa, hvla, hbsa⟩, hbV⟩
  have hzV := hbV.size
  have v1 : Boxed V (w2.heap.size + 1) 22 (.slice none 0 0) := (hbV.block _ (by omega)).trans q1
  have hRV := HR4.out.mono hbV
  have hwV : Below w.heap.size w V := hb1.trans ((hb2.mono (by have := Hz1.out; omega)).trans ((hb4.mono (by omega)).trans (hbV.mono (by omega))))
  have hrl : rs.length ≤ 1024 := by have := Hsc.out.2.1; omega
  have hps : ∀ x ∈ rs, x.l.length ≤ 44 := fun x hx => by
    obtain ⟨i, hi', rfl⟩ := List.getElem_of_mem hx
    exact (Hsc.out.1 i hi').ok.2.1
  clear hall d0 d1 d2 tc q1
  gi_wp2
  have hseq := all1_any (fun k => k < V.heap.size ∧ k ≠ w2.heap.size + 1) (fun k => k = w2.heap.size + 1) rs vsa va ba bf _ head V hBa hBf hrowa hvla (fun i hi hv => ⟨(hbsa i hi hv).1, fun hp b hb e => by
    have := (hbsa i hi hv).2 hp b hb
    have e' : b = w2.heap.size + 1 := e
    omega⟩) hps (by omega) hh (fun k hk hn => ⟨hk, hn⟩) (fun e => by have e' : ba = w2.heap.size + 1 := e; omega) (fun e => by have e' : bf = w2.heap.size + 1 := e; omega) (fun b hb e => by have e' : b = w2.heap.size + 1 := e; have := (hrowa.lt b hb).1; omega)
  refine' range_law3 (n := 3) (gf := 47) (lb := #[.pointer (some ⟨ba, 0, none⟩), .pointer (some ⟨bf, 0, none⟩)]) rfl (enters_of Try.func47 (by kernel_rfl) rfl) hseq (Below.refl _ _) (fun k hk => hk.1) (fun _ => rfl)
    (fun pre U => Keeps (fun k => k = w2.heap.size + 1) V U ∧ RowAt (w2.heap.size + 1) (V.heap.size + 2 + 0) U (recs pre))
    (fun code pre U => False)
    (Stands.and (stands_keeps _ _ (Nat.le_refl _)) (stands_row _ _ _ (by omega) (Nat.le_refl _)))
    (fun code => Stands.pure _ _ _)
    ⟨Keeps.refl _ _, none, _, [], v1, Rw.nil _ _⟩ _ _ ?haw ?assign ?body ?done ?stop
  case assign =>
    intro l' x U T' hT'
    simp only [aEnc]
    gi_wp2
    exact hT'
  case haw =>
    intro x U
    exact (Below.refl _ _).alloc (Nat.le_refl _) _
  case body =>
    rintro pre x U0 U hSp ⟨hkU, hrow⟩ hX hsU ⟨r, hr⟩ hzU hcU
    have hzU2 : U.heap.size = U0.heap.size + 1 := by rw [hzU]; simp
    have hbx0 : U.heap[U0.heap.size]? = some (.cells #[.int .i64 x.2.1.k, .int .i64 x.2.1.b, .int .i64 x.2.1.o, .slice x.2.2.1 x.2.1.l.length x.2.2.2, .int .i64 x.2.1.m] 62 (0, 0)) := by
      rw [hcU _ (by omega)]; exact World.alloc_heap_new U0 _
    have r0 : U.cell? ⟨U0.heap.size, 0, none⟩ = some (.int .i64 x.2.1.k) := by unfold World.cell?; rw [hbx0]; rfl
    have r1 : U.cell? ⟨U0.heap.size, 1, none⟩ = some (.int .i64 x.2.1.b) := by unfold World.cell?; rw [hbx0]; rfl
    have r2 : U.cell? ⟨U0.heap.size, 2, none⟩ = some (.int .i64 x.2.1.o) := by unfold World.cell?; rw [hbx0]; rfl
    have r3 : U.cell? ⟨U0.heap.size, 3, none⟩ = some (.slice x.2.2.1 x.2.1.l.length x.2.2.2) := by unfold World.cell?; rw [hbx0]; rfl
    have r4 : U.cell? ⟨U0.heap.size, 4, none⟩ = some (.int .i64 x.2.1.m) := by unfold World.cell?; rw [hbx0]; rfl
    have hlx := hX.1.lt
    have hXU : U.ownsRow (V.heap.size + 2 + 0) 5 1 (.slice x.2.2.1 x.2.1.l.length x.2.2.2) x.2.1.l.length (cellsB x.2.1.l) := by
      refine ⟨hX.1.1, ?_⟩
      rcases hX.1.2 with hn | ⟨g, cap, cur, e, hb, hg, rest⟩
      · exact .inl hn
      · have hgl := (Array.getElem?_eq_some_iff.1 hg).1
        exact .inr ⟨g, cap, cur, e, hb, ((hcU g (by omega)).trans (Below.heap_alloc _ _ _ hgl)).trans hg, rest⟩
    have hxlt := hX.2
    obtain ⟨pt, vt, vst, hbt, hrwt⟩ := hrow
    obtain ⟨tao, tcap, rfl⟩ := owns_slice hrwt.row
    have hpre : (recs pre).length ≤ 1024 := by
      have := hSp.1.length_le
      rw [recs_snoc] at this
      simp at this; omega
    have hct : ∀ o, (U.alloc o).cell? ⟨w2.heap.size + 1, 0, none⟩ = some (.slice tao (recs pre).length tcap) := fun o => (hbt.alloc o).cell
    have hct0 := hbt.cell
    have hpt8 : ∀ b, pt = some b → V.heap.size + 2 + 0 ≤ b := fun b hb => hrwt.pF b hb
    have hptl : ∀ b, pt = some b → b < U.heap.size := fun b hb => owns_lt' hrwt.row b (hrwt.own.trans hb)
    have hapart : ∀ b, pt = some b → (Value.slice x.2.2.1 x.2.1.l.length x.2.2.2).ownBlock ≠ some b := fun b hb e => owns_apart hrwt.row hXU (by decide) (hrwt.own.trans hb) e
    have hown4 : (Value.slice tao (recs pre).length tcap).ownBlock = pt := hrwt.own
    have hne4 : ∀ b, (Value.slice tao (recs pre).length tcap).ownBlock = some b → b ≠ w2.heap.size + 1 := fun b hb e => by have := hpt8 b (hown4.symm.trans hb); omega
    have rowt := hrwt.row
    have Hbt := hide hbt
    have Hrwt := hide hrwt
    have HXU := hide hXU
    have Hbx0 := hide hbx0
    have HzU := hide hzU
    have HzU2 := hide hzU2
    have hU0 : U0.heap.size < U.heap.size := by omega
    have hUV : V.heap.size + 2 + 0 ≤ U.heap.size := by omega
    have HcU := hide hcU
    have HhX := hide hX
    clear hseq hbt hrwt hXU hbx0 hzU hzU2 hcU hX hlx hct0
    have hct1 := Hbt.out.cell
    gi_wp2_with (gi_at_builtin; refine wpListIn_append_own_at _ rfl _ _ 22 rfl 0 62 i0 (.agg #[.int .i64 0, .int .i64 0, .int .i64 0, .slice none 0 0, .int .i64 0]) 5 56 Try.underlying22 hi hz0 hz1' hz2' rfl (by decide) (.slice tao (recs pre).length tcap) (recs pre).length (cellsR (recs pre) vst) rfl (rowt.alloc _) ⟨U.heap.size, 0, none⟩ 1 1 [.int .i64 x.2.1.k, .int .i64 x.2.1.b, .int .i64 x.2.1.o, .slice x.2.2.1 x.2.1.l.length x.2.2.2, .int .i64 x.2.1.m] rfl rfl (cell_five_new _ _ _ _ _ _ _) (by simp [Value.oneCell']) (by unfold maxLen; omega) (by omega) (by omega) ?_; intro v5 w5 ho5 hg5 hn5 hat5; have hbx5 := (Hbt.out.alloc _).kept hg5 (fun e => hne4 _ e.symm rfl); have hc5 := hbx5.cell; have hf5 := hbx5.frozen; obtain ⟨gv5, cv5, rfl⟩ := owns_succ ho5)
    rw [hown4] at hg5 hat5
    have kk : Keeps (fun b => pt = some b) U w5 := (Keeps.alloc _ _).trans (keeps_grown hg5)
    have hkin : ∀ b, (Value.slice (some ⟨gv5, 0, none⟩) ((recs pre).length + 1) cv5).ownBlock = some b → pt = some b ∨ b = U.heap.size + 1 := by
      intro b hb
      rcases hat5 with e | e
      · exact .inl (e.symm.trans hb)
      · rw [e] at hb; injection hb with hb; simp at hb; exact .inr (by omega)
    have hlt5 := HXU.out.lt
    have hrw5 := (Hrwt.out.narrow.snoc (u := .slice x.2.2.1 x.2.1.l.length x.2.2.2) (r := x.2.1) (fun k hk => hk.2) kk ho5 (fun b hb => by rcases hkin b hb with e | e; exact .inl e; exact .inr (by omega)) (keeps_bs kk (Bs.of_owns HXU.out hxlt) (fun _ b hb e => hapart b e hb))
      (fun _ b hb e => by have h4 := hlt5 b hb; rcases hkin b e with e | e; exact hapart b e hb; omega)).widen (F' := fun k => V.heap.size + 2 + 0 ≤ k) (fun k hk => by
        rcases hk with hk | hk | hk
        · exact hk.1
        · rcases hkin k hk with e | e
          · exact hpt8 k e
          · omega
        · exact (hlt5 k hk).1)
    have kX : Keeps (fun b => b = w2.heap.size + 1 ∨ V.heap.size + 2 + 0 ≤ b) U (w5.setCell ⟨w2.heap.size + 1, 0, none⟩ (.slice (some ⟨gv5, 0, none⟩) ((recs pre).length + 1) cv5)) := (kk.mono (fun b hb => .inr (hpt8 b hb))).trans ((keeps_set _ _ 0 _).mono (fun b hb => .inl hb))
    refine ⟨⟨kX.size, fun b h1 h2 => kX.block b (by omega) (fun h' => by rcases h' with h' | h' <;> omega)⟩, ⟨kX.size, fun b hb => kX.block b (by omega) (fun h' => by rcases h' with h' | h' <;> omega)⟩, ?_, ?_⟩
    · exact hkU.trans' kX (fun b h' => by rcases h' with h' | h'; exact .inl h'; exact .inr (by omega))
    · show RowAt _ _ _ (recs (pre ++ [x]))
      rw [recs_snoc]
      exact ⟨_, _, _, hbx5.set _, hrw5.keeps (keeps_set w5 (w2.heap.size + 1) 0 _) (fun k hk e => by have e' : k = w2.heap.size + 1 := e; omega)⟩
  case done =>
    rintro xs U hxs ⟨hkU, pt, vt, vst, hbt, hrwt⟩ hsU hK
    rw [hxs] at hrwt
    obtain ⟨tao, tcap, rfl⟩ := owns_slice hrwt.row
    have hct := hbt.cell
    have Hrwt := hide hrwt
    have Hxs := hide hxs
    clear hseq hrwt hxs
    gi_wp2
    refine wpIn_wide.2 ?_
    go_quiet (fail)
    gi_wp2
    refine ⟨by simp, .inl ⟨_, _, rfl, run_takeDeferred (show (U.drewN nq).heap[V.heap.size]? = _ from hK), ?_⟩⟩
    have kD := Keeps.drewN (S := fun k => k = V.heap.size) U nq
    have kP := kD.trans (keeps_put (U.drewN nq) V.heap.size (.deferred none))
    have hR9 := (hRV.keeps hkU (fun e => by have e' : w2.heap.size = w2.heap.size + 1 := e; omega) (fun k hk e => by have e' : k = w2.heap.size + 1 := e; omega)).keeps kP (fun e => by have e' : w2.heap.size = V.heap.size := e; omega) (fun k hk e => by have e' : k = V.heap.size := e; omega)
    refine ⟨_, results_slots3 rfl _ _ _ _ _ rfl rfl rfl, rs, w2.heap.size, _, _, rfl, Hsc.out, hR9, by omega, fun k hk => by have := Hz1.out; omega, ?_, ?_⟩
    · exact ((Hrwt.out.rs.keeps kP (fun k hk e => by have e' : k = V.heap.size := e; omega))).widen (fun k hk => by omega)
    · have k9 := hkU.below (B := w.heap.size) (fun k hk => by have e' : k = w2.heap.size + 1 := hk; omega) hwV.size
      exact (hwV.trans k9).trans (kP.below (fun k hk => by have e' : k = V.heap.size := hk; have := hwV.size; omega) (Nat.le_trans hwV.size k9.size))
  case stop =>
    rintro code pre U hSp hF
    exact hF.elim

end Go.Proofs.Ytjhbljkoapbkfaa
