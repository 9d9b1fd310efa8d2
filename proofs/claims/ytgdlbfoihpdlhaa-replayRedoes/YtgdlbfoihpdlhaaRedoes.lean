/- The law ReplayRedoes: what any records make of any page is what the document says, and what is handed in is left as it is, whatever the page, the block and the records. -/
import Derived.Test.YtgdlbfoihpdlhaaK9
import Derived.Test.YtgdlbfoihpdlhaaL5
import Derived.Test.YtgdlbfoihpdlhaaCameL
set_option linter.unusedSimpArgs false
set_option linter.unusedVariables false
namespace Go.Proofs.Ytgdlbfoihpdlhaa
open Go.RowKit Go.Attic Go.ChangeShapes Go.WideShapes

theorem redoR_len (p : List Nat) (block : Int) (rs : List Rc) : (redoR p block rs).1.length ≤ 256 := by
  unfold redoR
  split
  · split
    · rename_i h1 h2
      have := redoL_length (block := block) rs (fun r hr => List.all_eq_true.1 h2 r hr) h1
      exact Nat.le_of_eq this
    · simp
  · simp
theorem Rs.rc_lt {w : World} {F : Nat → Prop} {v : Value} {rs : List Rc} (h : Rs w F v rs) : ∀ r ∈ rs, ∀ x ∈ r.l, x < 256 := by
  intro r hr
  obtain ⟨i, hi, rfl⟩ := List.getElem_of_mem hr
  obtain ⟨ao, cap, vs, _, _, hl, _, h4⟩ := h
  exact (h4 i hi (by omega)).1.lt
theorem redoR_lt {p : List Nat} {block : Int} {rs : List Rc} (hp : ∀ x ∈ p, x < 256) (hr : ∀ r ∈ rs, ∀ x ∈ r.l, x < 256) : ∀ x ∈ (redoR p block rs).1, x < 256 := by
  unfold redoR
  split
  · split
    · exact redoL_lt rs hr hp
    · simp
  · simp

set_option maxRecDepth 100000 in
set_option maxHeartbeats 2000000 in
theorem redoes_walk {w : World} {F : Nat → Prop} {pv v : Value} {p : List Nat} {rs : List Rc} (block : Int) (hp : Bs w pv p) (hpl : p.length ≤ 140737488355328) (h : Rs w F v rs) (hlen : rs.length ≤ 140737488355328) (hls : ∀ r ∈ rs, r.l.length ≤ 140737488355328) :
    Calls Try.prog 4 #[pv, .int .i64 block, v] w fun e w' => e = .returned (.bool true) ∧ Below w.heap.size w w' := by
  obtain ⟨G, hG⟩ : ∃ G, redoR p block rs = G := ⟨_, rfl⟩
  have hg1 := redoR_len p block rs
  have hg2 := redoR_lt (block := block) hp.lt h.rc_lt
  rw [hG] at hg1 hg2
  have hplt := hp.lt
  obtain ⟨pa, pc, rfl, -⟩ := id hp
  obtain ⟨ao, cap, e, hcap⟩ := h.slice
  subst e
  go_enter Try.func4, Try.ntmps4
  go_wp2_with fail
  refine (begun_any _).mono ?_
  rintro e w1 ⟨rfl, hb1⟩
  have hz1 := hb1.size
  go_wp2_with fail
  refine (few_any (h.mono hb1) hlen hls).mono ?_
  rintro e w2 ⟨q, rfl, hq, hb2⟩
  have hb2 := hb1.trans (hb2.mono hz1)
  have hz2 := hb2.size
  cases q with
  | false =>
    clear hq
    go_wp2_with fail
    refine (begun_any _).mono ?_
    rintro e w3 ⟨rfl, hb3⟩
    go_wp2_with fail
    go_ret
    exact ⟨rfl, hb2.trans (hb3.mono hz2)⟩
  | true =>
    have hq4 := hq rfl
    by_cases hp5 : (5000 : Int) < (p.length : Int)
    · go_wp2_with fail
      refine (begun_any _).mono ?_
      rintro e w3 ⟨rfl, hb3⟩
      go_wp2_with fail
      go_ret
      exact ⟨rfl, hb2.trans (hb3.mono hz2)⟩
    · have hdp : decide ((5000 : Int) < (p.length : Int)) = false := decide_eq_false hp5
      go_wp2_with fail
      refine (clone_any _ p _ (hp.mono hb2) hpl).mono ?_
      rintro e w3 ⟨v3, rfl, ho3, hb3⟩
      have hs3 := Bs.of_owns ho3 hplt
      obtain ⟨a3, c3, rfl⟩ := owns_slice ho3
      have hB3 := hb2.trans (hb3.mono hz2)
      have hz3 := hB3.size
      clear ho3
      go_wp2_with fail
      have hr := redo_any block (hp.mono hB3) hpl (h.mono hB3) hlen hls
      rw [hG] at hr
      refine hr.mono ?_
      rintro e w4 ⟨v4, rfl, ho4, hb4⟩
      obtain ⟨a4, c4, hv4, hc4, hg4⟩ := owns_form ho4
      subst hv4
      have hB4 := hB3.trans (hb4.mono hz3)
      have hz4 := hB4.size
      clear hr
      go_wp2_with fail
      have hr := rredo_any block (hp.mono hB4) hpl (h.mono hB4) hlen hls
      rw [hG] at hr
      refine hr.mono ?_
      rintro e w5 ⟨v5, rfl, ho5, hb5⟩
      have hs4 := (Bs.of_owns ho4 hg2).mono hb5
      have hs5 := Bs.of_owns ho5 hg2
      have hO4 := owns_below ho4 hb5 (Nat.le_refl _)
      obtain ⟨a5, c5, rfl⟩ := owns_slice ho5
      have hB5 := hB4.trans (hb5.mono hz4)
      have hz5 := hB5.size
      have hsw := (hs3.mono hb4).mono hb5
      have hpw := hp.mono hB5
      clear hr ho4 ho5
      go_wp2_with fail
      refine (equal_any _ _ _ _ _ hs4 hs5).mono ?_
      rintro e w' ⟨rfl, rfl⟩
      rw [show decide (G.1 = G.1) = true from decide_eq_true rfl]
      have hX : w5.ownsRow w3.heap.size 5 1 (.slice a4 G.1.length c4) G.1.length (cellsB G.1) ∧ U8s (cellsB G.1) := ⟨hO4, U8s.of_cells _⟩
      have Hsw := hide hsw
      have Hpw := hide hpw
      have Hp := hide hp
      have Hs3 := hide hs3
      have HG := hide hG
      have H := hide h
      have Hpl := hide hplt
      clear hs4 hs5 hO4 hsw hpw hp hs3 hG h hplt hg2 hq hq4
      generalize hn : G.1.length = n at *
      have Hn := hide hn
      clear hn
      go_wp2_with fail
      try simp only [hdp]
      go_loopw [53] (fun i wr => ∃ (j : Nat) (xs : List Value), j ≤ n ∧ i = .int .i64 (j : Int) ∧ wr.ownsRow w3.heap.size 5 1 (.slice a4 n c4) n xs ∧ U8s xs ∧ Keeps (fun x => (Value.slice a4 n c4).ownBlock = some x) w5 wr) (fun i _ => n - (intOf i).toNat)
      case atStart => exact ⟨0, cellsB G.1, Nat.zero_le _, rfl, hX.1, hX.2, Keeps.refl _ _⟩
      case round =>
        have Hge := hide (fun x => owns_lt hX.1 x)
        clear hX
        obtain ⟨j, xs, hj, rfl, ho, hu, hk⟩ := hrel
        by_cases hjl : j < n
        · obtain ⟨g, rfl, hg⟩ := hg4 (by omega)
          have hxl : xs.length = n := by have := ho.1; simpa using this
          obtain ⟨y, hy⟩ := hu j (by omega)
          have hc : wr.cell? ⟨g, j, none⟩ = some (.int .u8 y) := by rw [ho.cellAt j (by omega)]; exact hy
          have hf := ho.frozenAt j
          have Hst := hide (ho.stored j (.int .u8 (bits .xor .u8 y 255))).1
          have Hk := hide (hk.set (g := g) (o := j) rfl (.int .u8 (bits .xor .u8 y 255)))
          have Hu := hide (hu.set j (bits .xor .u8 y 255))
          clear ho hk hu hy hxl
          go_wp2_with fail
          go_roundw
          case rel => exact ⟨j + 1, _, by omega, by go_num, Hst.out, Hu.out, Hk.out⟩
          case measure => simp [intOf]; omega
        · obtain rfl : j = n := by omega
          have hb := Bs.kept Hp.out Hpw.out hk (fun x hx => by have h9 := Hge.out x hx; omega)
          have hw := Bs.kept Hs3.out Hsw.out hk (fun x hx => Hge.out x hx)
          have B8 := hB5.trans (hk.below (B := w.heap.size) (fun x hx => by have h9 := Hge.out x hx; omega) hB5.size)
          clear ho hu hk
          go_wp2_with fail
          refine (equal_any _ _ p p _ hb hw).mono ?_
          rintro r w8 ⟨rfl, rfl⟩
          rw [show decide (p = p) = true from decide_eq_true rfl]
          go_wp2_with fail
          go_ret
          exact ⟨rfl, B8⟩

theorem replayRedoes_lifted (os : Os) (started : os.Started) (H : Type) (enc : TypeId × Value → H) :
    ReturnsInHanded {} Try.checked os 4 .any (Rows.replayRedoesSpec.pre6 enc Try.prog Try.f4 Rows.replayRedoesRow.domain false) (Rows.replayRedoesSpec.post enc Try.prog Try.f4 false true false false) := by
  refine law_frame (C := Try.checked) rfl Try.own started (by kernel_rfl) Try.func4
    (ChangeSpec.witness6 (enc := enc) (C := Try.checked) false ⟨#[], #[.slice none 0 0, .int .i64 0, .slice none 0 0], []⟩ 8 (by kernel_rfl) (by kernel_rfl) (by kernel_rfl) (by kernel_rfl))
    Try.laidOut ?_ 4 rfl Try.underlying4 ?_ ?_
  · rw [Try.params4]
    intro t ht
    simp at ht
    rcases ht with rfl | rfl | rfl <;> exact ⟨by kernel_rfl, of_decide_eq_true (by kernel_rfl)⟩
  · intro ds hn
    rw [Try.params4] at hn
    match ds, hn with
    | [d1, d2, d3], _ => rfl
  · intro W base args ds p hval0 hA hsz
    have hval : ∀ (j : Nat) t v, Try.f4.params[j]? = some t → args[j]? = some v → Value.okWide Try.prog W .any base t v := hval0
    rw [Try.params4] at hA hsz hval
    obtain ⟨v0, vs0, d0, ds0, p0, q0, hargs, rfl, rfl, h0, r0⟩ := trodAll_cons hA
    obtain ⟨v1, vs1, d1, ds1, p1, q1, rfl, rfl, rfl, h1, r1⟩ := trodAll_cons r0
    obtain ⟨v2, vs2, d2, ds2, p2, q2, rfl, rfl, rfl, h2, r2⟩ := trodAll_cons r1
    obtain ⟨rfl, rfl, rfl⟩ := trodAll_nil r2
    obtain rfl : args = #[v0, v1, v2] := by cases args; simp_all
    obtain ⟨l0, hbs0, hl0⟩ := Bs.came Try.underlying37 Try.underlying5 (by kernel_rfl) (hval 0 37 v0 rfl rfl) h0
    have hlen0 := came_len hsz (j := 0) (t := 37) rfl rfl Try.underlying37 (by kernel_rfl) hl0
    obtain ⟨a1, rfl, rfl, rfl, w1⟩ := open_int Try.underlying3 (hval 1 3 v1 rfl rfl) h1
    have hb1 := bounds_i64 w1
    obtain ⟨l2, hrs2, hln2, hls2, hnn2⟩ := rs_came (hval 2 22 v2 rfl rfl) h2 hsz (j := 2) rfl rfl
    exact redoes_walk a1 hbs0 (by omega) hrs2 hln2 hls2

theorem replayRedoes_holds : Rows.ReplayRedoesSaid :=
  OpenClaim.holds_of_wide 4 Try.f4 rfl rfl rfl rfl rfl rfl rfl ⟨rfl, rfl, rfl, rfl, rfl⟩ rfl rfl rfl rfl rfl (by kernel_rfl) Try.func4 (by kernel_rfl)
    (of_decide_eq_true (by kernel_rfl)) (by unfold Func.isWrapper; first | (rw [if_pos (by decide +kernel)]; kernel_rfl) | (rw [if_neg (by decide +kernel)]; exact ⟨rfl, rfl⟩))
    (fun os started H enc _ => replayRedoes_lifted os started H enc)
#print axioms replayRedoes_holds
end Go.Proofs.Ytgdlbfoihpdlhaa
