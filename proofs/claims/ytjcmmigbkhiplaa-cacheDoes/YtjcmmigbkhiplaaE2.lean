/- Contract: Read. -/
import Derived.Test.YtjcmmigbkhiplaaE1
import Derived.Test.YtjcmmigbkhiplaaIter2
import Derived.Maps.AppendAt
set_option linter.unusedSimpArgs false
set_option linter.unusedVariables false
namespace Go.Proofs.Ytjcmmigbkhiplaa
open Go.RowKit Go.Attic Go.Shelf
attribute [local go_sem] Oper.semAt_some

theorem lastW_append (ps : List (Nat × List Nat)) (x : Nat × List Nat) (i : Nat) : lastW (ps ++ [x]) i = if x.1 = i then some x.2 else lastW ps i := by
  induction ps with
  | nil => simp [lastW]
  | cons y ps ih =>
    simp only [List.cons_append, lastW, ih]
    by_cases h : x.1 = i
    · simp [h]
    · simp [h]

theorem lastW_none {ps : List (Nat × List Nat)} {i : Nat} (h : ∀ j, (hj : j < ps.length) → (ps[j]).1 ≠ i) : lastW ps i = none := by
  induction ps with
  | nil => rfl
  | cons y ps ih =>
    have h1 := ih (fun j hj => by have := h (j + 1) (by simpa using hj); simpa using this)
    have h2 := h 0 (by simp)
    simp only [lastW, h1]
    simpa using h2

theorem lastW_at {ps : List (Nat × List Nat)} {i j : Nat} (hj : j < ps.length) (he : (ps[j]).1 = i) (hn : ∀ k, j < k → (hk : k < ps.length) → (ps[k]).1 ≠ i) : lastW ps i = some (ps[j]).2 := by
  induction ps generalizing j with
  | nil => simp at hj
  | cons y ps ih =>
    cases j with
    | zero =>
      have h1 : lastW ps i = none := lastW_none (fun k hk => by have := hn (k + 1) (by omega) (by simpa using hk); simpa using this)
      simp only [lastW, h1]
      simp at he
      simp [he]
    | succ j =>
      have h1 := ih (j := j) (by simpa using hj) (by simpa using he) (fun k hk hk' => by have := hn (k + 1) (by omega) (by simpa using hk'); simpa using this)
      simp only [lastW, h1, List.getElem_cons_succ]

theorem results_cell2 {P : Program} {fn : Func} {p u : Tmp} {ty ty' : TypeId} (h : fn.results = #[.cell p ty, .cell u ty']) (tmps : Array Value) (w : World) (a1 a2 : Addr) (v1 v2 : Value) (h1 : tmps.getD p undef = .pointer (some a1)) (h2 : tmps.getD u undef = .pointer (some a2))
    (g1 : (isAgg ty).run P w = .ok false w) (g2 : (isAgg ty').run P w = .ok false w) (c1 : w.cell? a1 = some v1) (c2 : w.cell? a2 = some v2) : (results fn tmps).run P w = .ok (.tuple #[v1, v2]) w := by
  simp only [results, h]
  simp only [Array.getD_eq_getD_getElem?] at h1 h2
  simp [Sem.run_bind, Result.andThen, h1, h2, asAddr, loadVar, g1, g2, c1, c2]

theorem isAgg37 (w : World) : (isAgg 37).run Try.prog w = .ok false w := by
  simp [isAgg, run_underlying Try.underlying37]
theorem isAgg24 (w : World) : (isAgg 24).run Try.prog w = .ok false w := by
  simp [isAgg, run_underlying Try.underlying24]

set_option maxRecDepth 100000 in
set_option maxHeartbeats 1000000 in
theorem read_yes {w : World} {g m : Nat} {p : Option Nat} {F : Nat → Prop} {n : Nat} {s : St} (h : Dk w g m p F n s) (i : Int) (hpl : s.pend.length ≤ 1000000) :
    Calls Try.prog 30 #[.pointer (some ⟨g, 0, none⟩), .int .i64 i] w fun e w' => ∃ v, e = .returned (.tuple #[v, .int .i64 (readS s n i).2]) ∧ w'.ownsRow w.heap.size 5 1 v (readS s n i).1.length (cellsB (readS s n i).1) ∧ Below w.heap.size w w' := by
  obtain ⟨w1, hw1⟩ : ∃ w1, ((w.alloc (.cells #[.int .i64 i] 3)).alloc (.cells #[.slice none 0 0] 37)).alloc (.cells #[.int .i64 0] 24) = w1 := ⟨_, rfl⟩
  have hb1 : Below w.heap.size w w1 := by rw [← hw1]; exact (((Below.refl _ w).alloc (Nat.le_refl _) _).alloc (by simp) _).alloc (by simp; omega) _
  have hz1 : w1.heap.size = w.heap.size + 3 := by rw [← hw1]; simp
  have b0 : Boxed w1 w.heap.size 3 (.int .i64 i) := by rw [← hw1]; exact ((Boxed.new w 3 _).alloc _).alloc _
  have b1 : Boxed w1 (w.heap.size + 1) 37 (.slice none 0 0) := by
    rw [← hw1]
    have := (Boxed.new (w.alloc (.cells #[.int .i64 i] 3)) 37 (.slice none 0 0)).alloc (.cells #[.int .i64 0] 24)
    simpa using this
  have b2 : Boxed w1 (w.heap.size + 1 + 1) 24 (.int .i64 0) := by
    rw [← hw1]
    have := Boxed.new ((w.alloc (.cells #[.int .i64 i] 3)).alloc (.cells #[.slice none 0 0] 37)) 24 (.int .i64 0)
    simpa using this
  have h1 := h.mono hb1
  have hf := findable_yes i h1
  have c0 := b0.cell
  refine (callsIn_wide (n := 3)).1 ?_
  refine callsIn_of_wp_marks Try.func30 rfl trivial ?_ rfl
  simp only [Try.ntmps30, List.size_toArray, List.length_cons, List.length_nil, Nat.reduceAdd, Nat.reduceSub, Array.replicate_succ, Array.replicate_zero, List.push_toArray, List.append_toArray, List.nil_append, List.cons_append]
  rcases findS_cases s n i with ⟨hon, he⟩ | ⟨hon, hin, he⟩ | ⟨hon, hin, he, k, rfl, hk⟩
  · have e : readS s n i = ([], 5) := by simp [readS, hon]
    rw [e]; clear e
    rw [he] at hf
    have c1 := b1.cell
    have f1 := b1.frozen
    have c2 := b2.cell
    have f2 := b2.frozen
    gi_wp2
    refine ⟨trivial, (callsIn_wide.2 hf).mono ?_⟩
    rintro e w' ⟨rfl, rfl⟩
    gi_wp2
    refine ⟨_, results_cell2 rfl _ _ _ _ _ _ rfl rfl (isAgg37 _) (isAgg24 _) ((b1.set _).other (by omega) _).cell ((b2.other (by omega) _).set _).cell, _, rfl, World.ownsRow_nil _ _ _ _, (hb1.setCell (p := ⟨w.heap.size + 1, 0, none⟩) (by simp) _).setCell (p := ⟨w.heap.size + 1 + 1, 0, none⟩) (by simp; omega) _⟩
  · have e : readS s n i = ([], 30) := by simp [readS, hon, hin]
    rw [e]; clear e
    rw [he] at hf
    have c1 := b1.cell
    have f1 := b1.frozen
    have c2 := b2.cell
    have f2 := b2.frozen
    gi_wp2
    refine ⟨trivial, (callsIn_wide.2 hf).mono ?_⟩
    rintro e w' ⟨rfl, rfl⟩
    gi_wp2
    refine ⟨_, results_cell2 rfl _ _ _ _ _ _ rfl rfl (isAgg37 _) (isAgg24 _) ((b1.set _).other (by omega) _).cell ((b2.other (by omega) _).set _).cell, _, rfl, World.ownsRow_nil _ _ _ _, (hb1.setCell (p := ⟨w.heap.size + 1, 0, none⟩) (by simp) _).setCell (p := ⟨w.heap.size + 1 + 1, 0, none⟩) (by simp; omega) _⟩
  · have e : readS s n (k : Int) = (readL s k, 0) := by simp [readS, hon, hin]
    obtain ⟨rl, hrl⟩ : ∃ rl, readL s k = rl := ⟨_, rfl⟩
    rw [e, hrl]; clear e
    have Hrl := hide hrl
    clear hrl
    rw [he] at hf
    clear hon hin he
    obtain ⟨pv, vs, cp, hW⟩ := h1.c1
    obtain ⟨pao, pcap, rfl⟩ := owns_slice hW.row
    have HW := hide hW
    have H1 := hide h1
    clear hW h1 h
    gi_wp2
    refine ⟨trivial, (callsIn_wide.2 hf).mono ?_⟩
    rintro e w' ⟨rfl, rfl⟩
    gi_wp2
    refine ⟨trivial, (callsIn_wide.2 (backward_any _ _ ⟨_, _, _, rfl⟩)).mono ?_⟩
    rintro e w' ⟨rfl, rfl⟩
    gi_wp2
    have bV := Boxed.new w1 64 (.slice pao s.pend.length pcap)
    have kV : Below w1.heap.size w1 (w1.alloc (.cells #[.slice pao s.pend.length pcap] 64)) := (Below.refl _ _).alloc (Nat.le_refl _) _
    have hzV : (w1.alloc (.cells #[.slice pao s.pend.length pcap] 64)).heap.size = w.heap.size + 4 := by simp [hz1]
    obtain ⟨V, hV⟩ : ∃ V, w1.alloc (.cells #[.slice pao s.pend.length pcap] 64) = V := ⟨_, rfl⟩
    rw [hV] at bV kV hzV ⊢
    rw [hz1] at bV
    have HV := hide hV
    clear hV
    have hDV := H1.out.mono kV
    have hWV : Ws 93 V p F (.slice pao s.pend.length pcap) s.pend vs := HW.out.keeps (Keeps.of_below (S := fun _ => False) kV) (fun _ _ => id)
    have hseq := backward1_any (fun k => k < V.heap.size) s.pend vs _ _ V bV hWV.row hWV.len (fun u hu => by
      obtain ⟨j, hj, rfl⟩ := List.getElem_of_mem hu
      obtain ⟨ao, cap, e, _⟩ := (hWV.bs j (by have := hWV.len; omega) hj).1
      exact ⟨ao, _, cap, e⟩) hpl (by omega) (fun b hb => by have := H1.out.Fl b (hWV.pF b (hWV.own ▸ hb)); omega)
    refine range_law2 (n := 3) (gf := 60) (lb := #[.pointer (some ⟨w.heap.size + 3, 0, none⟩)]) rfl (enters_of Try.func60 (by kernel_rfl) rfl) hseq (Below.refl _ _) (fun k hk => hk) (fun _ => rfl)
      (fun pre U => (∀ j ∈ pre, (s.pend.getD j (0, [])).1 ≠ k) ∧ Below V.heap.size V U)
      (fun code pre U => code = .ret ∧ ((∃ l, lastW s.pend k = some l ∧ ∃ v, Boxed U (w.heap.size + 1) 37 v ∧ U.ownsRow (V.heap.size + 2 + 0) 5 1 v l.length (cellsB l)) ∧ (Boxed U (w.heap.size + 1 + 1) 24 (.int .i64 0) ∧ Below w.heap.size w U)))
      (Stands.and (Stands.pure _ _ _) (stands_below _ _ (Nat.le_refl _) (Nat.le_refl _)))
      (fun code => Stands.and (Stands.pure _ _ _) (Stands.and (Stands.ex fun l => Stands.and (Stands.pure _ _ _) (Stands.ex fun v => Stands.and (stands_boxed _ _ _ (.inl (by omega))) (stands_owns _ _ _ _ _ _ (Nat.le_refl _)))) (Stands.and (stands_boxed _ _ _ (.inl (by omega))) (stands_below _ _ (Nat.le_refl _) (by omega)))))
      ⟨by simp, Below.refl _ _⟩
      (fun x U => { tmps := #[.pointer (some ⟨g, 0, none⟩), .int .i64 (k : Int), undef, .pointer (some ⟨w.heap.size, 0, none⟩), .pointer (some ⟨w.heap.size + 1, 0, none⟩), .pointer (some ⟨w.heap.size + 1 + 1, 0, none⟩), .int .i64 0, undef, .pointer (some ⟨U.heap.size, 0, none⟩), .pointer (some ⟨g, 0, none⟩), .int .i64 (k : Int), .int .i64 0, .int .i64 0, .bool false, undef, .pointer (some ⟨g, 0, none⟩), .pointer (some ⟨g, 0, none⟩), .pointer (some ⟨g, 1, none⟩), .slice pao s.pend.length pcap, .func (.func 60) #[] #[.pointer (some ⟨w.heap.size + 3, 0, none⟩)], .int .i64 (x : Int), wAt s.pend vs x, undef, undef, undef, undef, undef, undef, undef, undef, undef, undef, undef], defers := [] })
      (fun x U => U.alloc (.cells #[.int .i64 ((s.pend.getD x (0, [])).1 : Int), vs.getD x (.slice none 0 0)] 93)) (fun x U => (Below.refl _ _).alloc (Nat.le_refl _) _)
      ?assign ?body ?done ?stop
    case assign =>
      intro l' x U T hT
      obtain ⟨ao, mm, cc, e⟩ : ∃ ao mm cc, vs.getD x (.slice none 0 0) = .slice ao mm cc := by
        by_cases hx : x < vs.length
        · obtain ⟨ao, cap, e, _⟩ := (hWV.bs x (by have := hWV.len; omega) hx).1
          exact ⟨ao, _, cap, by rw [← e]; simp [List.getD_eq_getElem?_getD, hx]⟩
        · exact ⟨none, 0, 0, by simp [List.getD_eq_getElem?_getD, List.getElem?_eq_none (show vs.length ≤ x by omega)]⟩
      simp only [wAt, e] at hT ⊢
      generalize (s.pend.getD x (0, [])).1 = blk at *
      clear hseq hWV hDV e
      gi_wp2
      exact hT
    case body =>
      rintro pre x U W hSp ⟨hpre, hbW⟩ hsU ⟨r, hr⟩ hzW hcW
      have hx : x < s.pend.length := by
        have := hSp.subset (show x ∈ pre ++ [x] by simp)
        simpa using this
      have hxv : x < vs.length := by have := hWV.len; omega
      obtain ⟨hbx, hFx⟩ := hWV.bs x hx hxv
      have hbox : W.heap[U.heap.size]? = some (.cells #[.int .i64 ((s.pend[x]).1 : Int), vs[x]] 93 (0, 0)) := by
        rw [hcW _ (by omega), World.alloc_heap_new]
        simp [List.getD_eq_getElem?_getD, hx, hxv]
      have cb0 : W.cell? ⟨U.heap.size, 0, none⟩ = some (.int .i64 ((s.pend[x]).1 : Int)) := by simp [World.cell?, hbox]
      have cb1 : W.cell? ⟨U.heap.size, 1, none⟩ = some vs[x] := by simp [World.cell?, hbox]
      have hlast := fun (he : (s.pend[x]).1 = k) (hn : ∀ j, x < j → (hj : j < s.pend.length) → (s.pend[j]).1 ≠ k) => lastW_at hx he hn
      have hnext : ∀ j, x < j → (hj : j < s.pend.length) → j ∈ pre := by
        intro j hxj hj
        obtain ⟨t, ht⟩ := hSp
        have h1 : j ∈ (List.range s.pend.length).reverse := by simpa using hj
        rw [← ht] at h1
        simp only [List.append_assoc, List.mem_append, List.mem_singleton, List.cons_append, List.nil_append, List.mem_cons] at h1
        rcases h1 with h1 | h1 | h1
        · exact h1
        · omega
        · exfalso
          have hs : ((List.range s.pend.length).reverse).Pairwise (· > ·) := by
            rw [List.pairwise_reverse]; exact List.pairwise_lt_range
          rw [← ht, List.append_assoc, List.pairwise_append] at hs
          have := (List.pairwise_cons.1 hs.2.1).1 j h1
          omega
      have b0W : Boxed W w.heap.size 3 (.int .i64 (k : Int)) := (hbW.block _ (by omega)).trans ((kV.block _ (by omega)).trans b0)
      have b1W : Boxed W (w.heap.size + 1) 37 (.slice none 0 0) := (hbW.block _ (by omega)).trans ((kV.block _ (by omega)).trans b1)
      have b2W : Boxed W (w.heap.size + 1 + 1) 24 (.int .i64 0) := (hbW.block _ (by omega)).trans ((kV.block _ (by omega)).trans b2)
      have c0W := b0W.cell
      have hbsW := hbx.mono hbW
      have hwx : wAt s.pend vs x = .agg #[.int .i64 ((s.pend[x]).1 : Int), vs[x]] := by simp [wAt, List.getD_eq_getElem?_getD, hx, hxv]
      have hgx : s.pend.getD x (0, []) = s.pend[x] := by simp [List.getD_eq_getElem?_getD, hx]
      have hokx := (H1.out.ok.pend _ (List.getElem_mem hx)).2.1
      rw [hwx]
      generalize vs[x] = vx at *
      generalize s.pend[x] = px at *
      obtain ⟨blk, byt⟩ := px
      dsimp only at *
      obtain ⟨xao, xcap, rfl, _⟩ := hbx
      have Hok := hide hokx
      rw [hokx] at hbsW cb1 ⊢
      clear hokx
      by_cases hbk : blk = k
      · subst hbk
        have hl := hlast rfl (fun j h1 h2 => by have := hpre j (hnext j h1 h2); simpa [List.getD_eq_getElem?_getD, h2] using this)
        have Hl := hide hl
        have c1W := b1W.cell
        have f1W := b1W.frozen
        have c2W := b2W.cell
        have f2W := b2W.frozen
        clear hl hlast hseq hgx hwx hbox hcW
        gi_wp2
        refine ⟨trivial, ((callsIn_wide.2 (own_any _ byt _ hbsW (by rw [Hok.out]; omega))).inRound _).mono ?_⟩
        rintro e W3 ⟨v3, rfl, ho3, hb3⟩
        have hzW' : w.heap.size + 6 ≤ W.heap.size := by simp at hzW; omega
        have b1X : Boxed W3 (w.heap.size + 1) 37 (.slice none 0 0) := (hb3.block _ (by omega)).trans b1W
        have b2X : Boxed W3 (w.heap.size + 1 + 1) 24 (.int .i64 0) := (hb3.block _ (by omega)).trans b2W
        obtain ⟨ao3, cap3, rfl⟩ := owns_slice ho3
        have hlt3 := ho3.lt
        have c1X := b1X.cell
        have f1X := b1X.frozen
        have c2X := b2X.cell
        have f2X := b2X.frozen
        have Ho3 := hide ho3
        clear ho3 c1W f1W c2W f2W c0W cb0 cb1
        gi_wp2
        have hS : Still (w.heap.size + 4) (w.heap.size + 6) W ((W3.setCell ⟨w.heap.size + 1, 0, none⟩ (.slice ao3 byt.length cap3)).setCell ⟨w.heap.size + 1 + 1, 0, none⟩ (.int .i64 0)) :=
          ((Still.below hb3 (by omega)).trans (Still.set (.inl (by omega)) _)).trans (Still.set (.inl (by omega)) _)
        refine ⟨?_, rfl, ⟨byt, Hl.out, _, ((b1X.set _).other (by omega) _), ?_⟩, ((b2X.other (by omega) _).set _), ?_⟩
        · first | exact hS | (rw [hzV]; exact hS)
        · have q := ((keeps_set W3 (w.heap.size + 1) 0 (.slice ao3 byt.length cap3)).owns Ho3.out (fun b hb e => by have := (hlt3 b hb).1; have e' : b = w.heap.size + 1 := e; omega))
          have q2 := ((keeps_set _ (w.heap.size + 1 + 1) 0 (.int .i64 0)).owns q (fun b hb e => by have := (hlt3 b hb).1; have e' : b = w.heap.size + 1 + 1 := e; omega))
          exact owns_base q2 (by omega)
        · have hB : Below w.heap.size w W3 := ((hb1.trans (kV.mono (by omega))).trans (hbW.mono (by omega))).trans (hb3.mono (by omega))
          exact (hB.setCell (p := ⟨w.heap.size + 1, 0, none⟩) (by simp) _).setCell (p := ⟨w.heap.size + 1 + 1, 0, none⟩) (by simp; omega) _
      · have hne : ((blk : Int) == (k : Int)) = false := by simp; omega
        clear hlast hseq hwx hbox
        gi_wp2
        refine ⟨Still.refl _ _ _, KeepS.refl _ _, fun j hj => ?_, by first | exact hbW | (rw [hzV] at hbW; exact hbW)⟩
        simp only [List.mem_append, List.mem_singleton] at hj
        rcases hj with hj | rfl
        · have := hpre j hj; simpa [List.getD_eq_getElem?_getD] using this
        · have e := hgx
          first
            | (rw [e]; exact hbk)
            | (rw [List.getD_eq_getElem?_getD] at e; rw [e]; exact hbk)
    case done =>
      rintro xs U rfl ⟨hpre, hbU⟩ hsU hK
      have hlast : lastW s.pend k = none := lastW_none (fun j hj => by have := hpre j (by simpa using hj); simpa [List.getD_eq_getElem?_getD, hj] using this)
      have hrl : rl = blockL s.med k := by rw [← Hrl.out]; simp [readL, hlast]
      have Hrl2 := hide hrl
      clear hrl
      have hDU := hDV.mono hbU
      obtain ⟨mcap, cm, hmb⟩ := hDU.medBs
      have hmc := hmb.cap
      have b0U : Boxed U w.heap.size 3 (.int .i64 (k : Int)) := (hbU.block _ (by omega)).trans ((kV.block _ (by omega)).trans b0)
      have b1U : Boxed U (w.heap.size + 1) 37 (.slice none 0 0) := (hbU.block _ (by omega)).trans ((kV.block _ (by omega)).trans b1)
      have b2U : Boxed U (w.heap.size + 1 + 1) 24 (.int .i64 0) := (hbU.block _ (by omega)).trans ((kV.block _ (by omega)).trans b2)
      have c0U := b0U.cell
      have hblk := block_yes cm hDU.ok.len hmc hk hDU.ok.n2
      have hml : s.med.length = 256 * n := hDU.ok.len
      have hbk : Bs U (.slice (some ⟨m, k * 256, none⟩) 256 (mcap - k * 256)) (blockL s.med k) := by
        have q := hmb.drop (lo := k * 256) (by omega)
        rw [if_neg (by omega), Option.map_some, Addr.add_lit, Nat.zero_add] at q
        have q2 := q.take (h := 256) (by simp; omega)
        rw [Nat.mul_comm] at q2
        rw [Nat.mul_comm k 256]
        exact q2
      have hbl : (blockL s.med k).length = 256 := by simp [blockL]; omega
      have Hml := hide hml
      clear hseq hml
      gi_wp2
      refine ⟨trivial, (callsIn_wide.2 hblk).mono ?_⟩
      rintro e w' ⟨rfl, rfl⟩
      gi_wp2
      refine ⟨trivial, (callsIn_wide.2 (own_any _ _ _ hbk (by omega))).mono ?_⟩
      rintro e U3 ⟨v3, rfl, ho3, hb3⟩
      have b1X : Boxed U3 (w.heap.size + 1) 37 (.slice none 0 0) := (hb3.block _ (by omega)).trans b1U
      have b2X : Boxed U3 (w.heap.size + 1 + 1) 24 (.int .i64 0) := (hb3.block _ (by omega)).trans b2U
      have hK3 := (hb3.block V.heap.size (by omega)).trans hK
      obtain ⟨ao3, cap3, rfl⟩ := owns_slice ho3
      have hlt3 := ho3.lt
      have c1X := b1X.cell
      have f1X := b1X.frozen
      have c2X := b2X.cell
      have f2X := b2X.frozen
      have Ho3 := hide ho3
      have HzV := hide hzV
      have Hbl := hide hbl
      clear ho3 c0U hzV hbl hblk
      gi_wp2
      have hK4 : ((U3.setCell ⟨w.heap.size + 1, 0, none⟩ (.slice ao3 (blockL s.med k).length cap3)).setCell ⟨w.heap.size + 1 + 1, 0, none⟩ (.int .i64 0)).heap[w.heap.size + 4]? = some (.deferred (some [])) := by
        rw [← HzV.out]; exact ((keeps_set _ _ 0 _).block V.heap.size (by simp; have := HzV.out; have := hb3.size; omega) (by have := HzV.out; intro e; have e' : V.heap.size = w.heap.size + 1 + 1 := e; omega)).trans (((keeps_set _ _ 0 _).block V.heap.size (by have := HzV.out; have := hb3.size; omega) (by have := HzV.out; intro e; have e' : V.heap.size = w.heap.size + 1 := e; omega)).trans hK3)
      refine ⟨by simp, .inl ⟨_, _, rfl, run_takeDeferred hK4, ?_⟩⟩
      have b1Y := (World.putObj_heap_other (w := ((U3.setCell ⟨w.heap.size + 1, 0, none⟩ (.slice ao3 (blockL s.med k).length cap3)).setCell ⟨w.heap.size + 1 + 1, 0, none⟩ (.int .i64 0))) (r := w.heap.size + 4) (o := .deferred none) (k := w.heap.size + 1) (by omega)).trans ((b1X.set _).other (by omega) _)
      have b2Y := (World.putObj_heap_other (w := ((U3.setCell ⟨w.heap.size + 1, 0, none⟩ (.slice ao3 (blockL s.med k).length cap3)).setCell ⟨w.heap.size + 1 + 1, 0, none⟩ (.int .i64 0))) (r := w.heap.size + 4) (o := .deferred none) (k := w.heap.size + 1 + 1) (by omega)).trans ((b2X.other (by omega) _).set _)
      refine ⟨_, results_cell2 rfl _ _ _ _ _ _ rfl rfl (isAgg37 _) (isAgg24 _) (Boxed.cell b1Y) (Boxed.cell b2Y), _, rfl, ?_, ?_⟩
      · rw [Hrl2.out]
        have q := ((keeps_set U3 (w.heap.size + 1) 0 (.slice ao3 (blockL s.med k).length cap3)).owns Ho3.out (fun b hb e => by have := (hlt3 b hb).1; have e' : b = w.heap.size + 1 := e; have := HzV.out; omega))
        have q2 := ((keeps_set _ (w.heap.size + 1 + 1) 0 (.int .i64 0)).owns q (fun b hb e => by have := (hlt3 b hb).1; have e' : b = w.heap.size + 1 + 1 := e; have := HzV.out; omega))
        exact owns_base (ownsRow_putObj q2 _ hK4 rfl) (by have := hb3.size; have := HzV.out; omega)
      · have hB : Below w.heap.size w U3 := ((hb1.trans (kV.mono (by omega))).trans (hbU.mono (by have := HzV.out; omega))).trans (hb3.mono (by have := HzV.out; omega))
        exact ((hB.setCell (p := ⟨w.heap.size + 1, 0, none⟩) (by simp) _).setCell (p := ⟨w.heap.size + 1 + 1, 0, none⟩) (by simp; omega) _).trans (belowK_b (w := w) (Nat.le_refl _) _ _ _ _ (by omega) hK4 rfl rfl)
    case stop =>
      rintro code pre U hSp ⟨rfl, ⟨l, hl, v, b1U, hown⟩, b2U, hbU⟩ hsU hK
      have hrl : rl = l := by rw [← Hrl.out]; simp [readL, hl]
      subst hrl
      clear hseq
      have HzV := hide hzV
      gi_wp2
      have hK4 : U.heap[w.heap.size + 4]? = some (.deferred (some [])) := by
        rw [← HzV.out]; exact hK
      refine ⟨by simp, .inl ⟨_, _, rfl, run_takeDeferred hK4, ?_⟩⟩
      have b1Y := (World.putObj_heap_other (w := U) (r := w.heap.size + 4) (o := .deferred none) (k := w.heap.size + 1) (by omega)).trans b1U
      have b2Y := (World.putObj_heap_other (w := U) (r := w.heap.size + 4) (o := .deferred none) (k := w.heap.size + 1 + 1) (by omega)).trans b2U
      refine ⟨_, results_cell2 rfl _ _ _ _ _ _ rfl rfl (isAgg37 _) (isAgg24 _) (Boxed.cell b1Y) (Boxed.cell b2Y), _, rfl, ?_, ?_⟩
      · exact owns_base (ownsRow_putObj hown _ hK4 rfl) (by have := HzV.out; omega)
      · exact hbU.trans (belowK_b (w := w) (Nat.le_refl _) _ _ _ _ (by omega) hK4 rfl rfl)


end Go.Proofs.Ytjcmmigbkhiplaa
