/- The law ReplayTwice: what is redone once more is the same; in two parts it is what it is at once; patches of other blocks change nothing, whatever the page, the block and the two lists of records. -/
import Derived.Test.YtgdlbfoihpdlhaaK9
import Derived.Test.YtgdlbfoihpdlhaaI5
import Derived.Test.YtgdlbfoihpdlhaaJ1
import Derived.Test.YtgdlbfoihpdlhaaCameL
set_option linter.unusedSimpArgs false
set_option linter.unusedVariables false
namespace Go.Proofs.Ytgdlbfoihpdlhaa
open Go.RowKit Go.Attic Go.ChangeShapes Go.WideShapes

theorem redoR_is (p : List Nat) (block : Int) (rs : List Rc) : (∃ er, redoR p block rs = ([], er) ∧ (er == 0) = false) ∨ (p.length = 256 ∧ (∀ r ∈ rs, okb r = true) ∧ redoR p block rs = (redoL block p rs, 0)) := by
  unfold redoR
  by_cases h1 : p.length = 256
  · rw [if_pos h1]
    by_cases h2 : rs.all okb = true
    · rw [if_pos h2]; exact .inr ⟨h1, fun r hr => List.all_eq_true.1 h2 r hr, rfl⟩
    · rw [if_neg h2]; exact .inl ⟨60, rfl, rfl⟩
  · rw [if_neg h1]; exact .inl ⟨1, rfl, rfl⟩
theorem redoR_ok {p : List Nat} {block : Int} {rs : List Rc} (h1 : p.length = 256) (h2 : ∀ r ∈ rs, okb r = true) : redoR p block rs = (redoL block p rs, 0) := by
  unfold redoR
  rw [if_pos h1, if_pos (List.all_eq_true.2 h2)]

set_option maxRecDepth 100000 in
set_option maxHeartbeats 1000000 in
theorem twice_walk {w : World} {F1 F2 : Nat → Prop} {pv v1 v2 : Value} {p : List Nat} {l more : List Rc} (block : Int) (hp : Bs w pv p) (hpl : p.length ≤ 140737488355328) (h1 : Rs w F1 v1 l) (hlen1 : l.length ≤ 140737488355328) (hls1 : ∀ r ∈ l, r.l.length ≤ 140737488355328) (hn1 : ∀ n c, v1 = .slice none n c → c = 0)
    (h2 : Rs w F2 v2 more) (hlen2 : more.length ≤ 140737488355328) (hls2 : ∀ r ∈ more, r.l.length ≤ 140737488355328) (hn2 : ∀ n c, v2 = .slice none n c → c = 0) :
    Calls Try.prog 7 #[pv, .int .i64 block, v1, v2] w fun e w' => e = .returned (.bool true) ∧ Below w.heap.size w w' := by
  have hR1 : Rs w Any v1 l := h1.widen (fun _ _ => trivial)
  have hR2 : Rs w Any v2 more := h2.widen (fun _ _ => trivial)
  have hplt := hp.lt
  have hf1 := fun w1 (hb : Below w.heap.size w w1) => few_any (hR1.mono hb) hlen1 hls1
  have hf2 := fun w1 (hb : Below w.heap.size w w1) => few_any (hR2.mono hb) hlen2 hls2
  obtain ⟨pa, pc, rfl, -⟩ := id hp
  obtain ⟨a1, c1, e1, hc1⟩ := hR1.slice
  obtain ⟨a2, c2, e2, hc2⟩ := hR2.slice
  subst e1 e2
  have HR1 := hide hR1
  have HR2 := hide hR2
  have Hn1 := hide hn1
  have Hn2 := hide hn2
  have Hp := hide hp
  have Hplt := hide hplt
  have Hls1 := hide hls1
  have Hls2 := hide hls2
  have Hf1 := hide hf1
  have Hf2 := hide hf2
  clear h1 h2 hR1 hR2 hn1 hn2 hp hplt hls1 hls2 hf1 hf2
  go_enter Try.func7, Try.ntmps7
  go_wp2_with fail
  refine (begun_any _).mono ?_
  rintro e w1 ⟨rfl, hb1⟩
  have hz1 := hb1.size
  go_wp2_with fail
  refine (Hf1.out w1 hb1).mono ?_
  rintro e w2 ⟨q, rfl, hq, hb2⟩
  have hb2 := hb1.trans (hb2.mono hz1)
  have hz2 := hb2.size
  cases q with
  | false =>
    clear hq
    go_wp2_with fail
    refine (begun_any _).mono ?_
    rintro e w3 ⟨rfl, hb3⟩
    go_wp2_with fail
    go_ret
    exact ⟨rfl, hb2.trans (hb3.mono hz2)⟩
  | true =>
    have hL1 := hq rfl
    clear hq
    go_wp2_with fail
    refine (Hf2.out w2 hb2).mono ?_
    rintro e w3 ⟨q, rfl, hq, hb3⟩
    have hb3 := hb2.trans (hb3.mono hz2)
    have hz3 := hb3.size
    cases q with
    | false =>
      clear hq
      go_wp2_with fail
      refine (begun_any _).mono ?_
      rintro e w4 ⟨rfl, hb4⟩
      go_wp2_with fail
      go_ret
      exact ⟨rfl, hb3.trans (hb4.mono hz3)⟩
    | true =>
      have hL2 := hq rfl
      clear hq
      by_cases hp5 : (5000 : Int) < (p.length : Int)
      · go_wp2_with fail
        refine (begun_any _).mono ?_
        rintro e w4 ⟨rfl, hb4⟩
        go_wp2_with fail
        go_ret
        exact ⟨rfl, hb3.trans (hb4.mono hz3)⟩
      · have hss := Rss.two 22 (HR1.out.mono hb3) (HR2.out.mono hb3) Hn1.out Hn2.out
        have hfe : [l, more].flatten = l ++ more := by simp
        have hcc := concatR_any _ _ _ hss (by simp) (by rw [hfe]; simp; omega)
        rw [hfe] at hcc
        have Hcc := hide hcc
        clear hss hfe hcc
        go_wp2_with fail
        refine Hcc.out.mono ?_
        rintro e w5 ⟨v5, rfl, hR5, hb5⟩
        have hb5 := (hb3.alloc hz3 (.cells #[.slice a1 l.length c1, .slice a2 more.length c2] 22)).trans (hb5.mono (by simp; omega))
        have hz5 := hb5.size
        obtain ⟨a5, c5, e5, hc5⟩ := hR5.slice
        subst e5
        have hal : (l ++ more).length ≤ 800 := by simp; omega
        obtain ⟨n5, hn5⟩ : ∃ n5, (l ++ more).length = n5 := ⟨_, rfl⟩
        rw [hn5] at hR5 hal hc5 ⊢
        have HR5 := hide hR5
        have Hn5 := hide hn5
        clear hn5
        have hls5 : ∀ r ∈ l ++ more, r.l.length ≤ 140737488355328 := fun r hr => (List.mem_append.1 hr).elim (Hls1.out r) (Hls2.out r)
        have hxlt : ∀ r ∈ l ++ more, ∀ x ∈ r.l, x < 256 := by
          intro r hr
          obtain ⟨i, hi, rfl⟩ := List.getElem_of_mem hr
          obtain ⟨ao, cap, vs, _, _, hl, _, h4⟩ := HR5.out
          exact (h4 i hi (by omega)).1.lt
        have Hls5 := hide hls5
        have Hxlt := hide hxlt
        clear hR5 hls5 hxlt
        have hr := redo_any block (Hp.out.mono hb5) hpl HR5.out (by have := Hn5.out; omega) Hls5.out
        rcases redoR_is p block (l ++ more) with ⟨er, he, her⟩ | ⟨hp6, hok, he⟩
        · rw [he] at hr
          have Hr := hide hr
          clear hr he
          go_wp2_with fail
          refine Hr.out.mono ?_
          rintro e w6 ⟨v6, rfl, ho6, hb6⟩
          obtain ⟨a6, c6, rfl⟩ := owns_slice ho6
          clear ho6
          have hne : ¬ er = 0 := by simpa using her
          go_wp2_with fail
          go_ret
          exact ⟨by simp, hb5.trans (hb6.mono hz5)⟩
        · rw [he] at hr
          have hXl := redoL_length (block := block) (l ++ more) hok hp6
          have hXlt := redoL_lt (block := block) (l ++ more) Hxlt.out Hplt.out
          have hX2 := redoL_twice block p (l ++ more) hok hp6
          have hX3 := redoL_append block p l more
          have hX4 : block ∉ blocksN (l ++ more) → redoL block p (l ++ more) = p := fun h => redoL_other block (l ++ more) p (fun r hr hh => h ((blocksN_mem (l ++ more) block).2 ⟨r, hr, hh.1, hh.2⟩))
          have hAl := redoL_length (block := block) l (fun r hr => hok r (by simp [hr])) hp6
          have hAlt := redoL_lt (block := block) l (fun r hr => Hxlt.out r (by simp [hr])) Hplt.out
          have e1 := redoR_ok (block := block) hXl hok
          have e2 := redoR_ok (block := block) hp6 (fun r hr => hok r (by simp [hr]) : ∀ r ∈ l, okb r = true)
          have e3 := redoR_ok (block := block) hAl (fun r hr => hok r (by simp [hr]) : ∀ r ∈ more, okb r = true)
          rw [hX2] at e1
          rw [← hX3] at e3
          generalize redoL block p (l ++ more) = X at *
          generalize redoL block p l = A at *
          obtain ⟨Z, hZ⟩ : ∃ Z, blocksN (l ++ more) = Z := ⟨_, rfl⟩
          have hzl := blocksN_len (l ++ more)
          have hbk := fun w h => blocks_any (w := w) (F := Any) (v := .slice a5 n5 c5) (rs := l ++ more) h (by have := Hn5.out; omega)
          rw [hZ] at hX4 hzl hbk
          rw [Hn5.out] at hzl
          have hd5 : decide ((5000 : Int) < (p.length : Int)) = false := decide_eq_false (by omega)
          have Hr := hide hr
          have HX4 := hide hX4
          have HE1 := hide e1
          have HE2 := hide e2
          have HE3 := hide e3
          have HXl := hide hXl
          have HXlt := hide hXlt
          have HAl := hide hAl
          have HAlt := hide hAlt
          have Hbk := hide hbk
          have Hp6 := hide hp6
          clear hr hX2 hX3 hX4 e1 e2 e3 hXl hXlt hAl hAlt hbk hp6 hok he hZ
          go_wp2_with fail
          refine Hr.out.mono ?_
          rintro e w6 ⟨v6, rfl, ho6, hb6⟩
          have hb6 := hb5.trans (hb6.mono hz5)
          have hz6 := hb6.size
          have hR6 := HR5.out.mono (by assumption : Below w5.heap.size w5 w6)
          have hs6 := Bs.of_owns ho6 HXlt.out
          obtain ⟨a6, c6, rfl⟩ := owns_slice ho6
          have hr := redo_any block hs6 (by have := HXl.out; omega) hR6 (by have := Hn5.out; omega) Hls5.out
          rw [HE1.out] at hr
          have Hr7 := hide hr
          have Hs6 := hide hs6
          have HR6 := hide hR6
          clear hr ho6 hs6 hR6
          go_wp2_with fail
          refine Hr7.out.mono ?_
          rintro e w7 ⟨v7, rfl, ho7, hb7'⟩
          have hb7 := hb6.trans (hb7'.mono hz6)
          have hz7 := hb7.size
          have Hs7 := hide (Bs.of_owns ho7 HXlt.out)
          have Hs67 := hide (Hs6.out.mono hb7')
          have HR7 := hide (HR6.out.mono hb7')
          obtain ⟨a7, c7, rfl⟩ := owns_slice ho7
          have hr := redo_any block (Hp.out.mono hb7) hpl (HR1.out.mono hb7) hlen1 Hls1.out
          rw [HE2.out] at hr
          have Hr8 := hide hr
          clear hr ho7
          go_wp2_with fail
          refine Hr8.out.mono ?_
          rintro e w8 ⟨v8, rfl, ho8, hb8'⟩
          have hb8 := hb7.trans (hb8'.mono hz7)
          have hz8 := hb8.size
          have Hs8 := hide (Bs.of_owns ho8 HAlt.out)
          have Hs78 := hide (Hs7.out.mono hb8')
          have Hs68 := hide (Hs67.out.mono hb8')
          have HR8 := hide (HR7.out.mono hb8')
          obtain ⟨a8, c8, rfl⟩ := owns_slice ho8
          have hr := redo_any block Hs8.out (by have := HAl.out; omega) (HR2.out.mono hb8) hlen2 Hls2.out
          rw [HE3.out] at hr
          have Hr9 := hide hr
          clear hr ho8
          go_wp2_with fail
          refine Hr9.out.mono ?_
          rintro e w9 ⟨v9, rfl, ho9, hb9'⟩
          have hb9 := hb8.trans (hb9'.mono hz8)
          have hz9 := hb9.size
          have hs9 := Bs.of_owns ho9 HXlt.out
          have HR9 := hide (HR8.out.mono hb9')
          obtain ⟨a9, c9, rfl⟩ := owns_slice ho9
          have hs69 := Hs68.out.mono hb9'
          have heq1 := equal_any _ _ _ _ _ (Hs78.out.mono hb9') hs69
          have heq2 := equal_any _ _ _ _ _ hs9 hs69
          rw [decide_eq_true rfl] at heq1 heq2
          have Heq1 := hide heq1
          have Heq2 := hide heq2
          have Hs69 := hide hs69
          clear heq1 heq2 hs69 hs9 ho9
          go_wp2_with fail
          refine Heq1.out.mono ?_
          rintro e w' ⟨rfl, rfl⟩
          go_wp2_with fail
          refine Heq2.out.mono ?_
          rintro e w' ⟨rfl, rfl⟩
          go_wp2_with fail
          refine (Hbk.out w9 HR9.out).mono ?_
          rintro e wa ⟨f, rfl, hit, hba'⟩
          have hba := hb9.trans (hba'.mono hz9)
          have hza := hba.size
          have ht1 : Z.take 1048576 = Z := List.take_of_length_le (by omega)
          have htold := told_any Z 1048576 f wa hit (by omega) (by omega)
          rw [ht1] at htold
          have Htold := hide htold
          clear ht1 htold hit
          go_wp2_with fail
          refine Htold.out.mono ?_
          rintro e wb ⟨vb, rfl, hob, hbb'⟩
          have hbb := hba.trans (hbb'.mono hza)
          have hcon := contains_any block (Is.of_owns hob) (by omega)
          have Hcon := hide hcon
          obtain ⟨ab, cb, rfl⟩ := owns_slice hob
          clear hcon hob
          go_wp2_with fail
          refine Hcon.out.mono ?_
          rintro e w' ⟨⟨q, rfl, hq⟩, rfl⟩
          cases q with
          | true =>
            clear hq
            go_wp2_with fail
            go_ret
            exact ⟨rfl, hbb⟩
          | false =>
            have hXp : X = p := HX4.out (hq.resolve_left (by simp))
            have heq3 := equal_any _ _ _ _ _ ((Hs69.out.mono hba').mono hbb') (Hp.out.mono hbb)
            rw [decide_eq_true hXp] at heq3
            have Heq3 := hide heq3
            clear hq hXp heq3
            go_wp2_with fail
            refine Heq3.out.mono ?_
            rintro e w' ⟨rfl, rfl⟩
            go_wp2_with fail
            go_ret
            exact ⟨rfl, hbb⟩

theorem replayTwice_lifted (os : Os) (started : os.Started) (H : Type) (enc : TypeId × Value → H) :
    ReturnsInHanded {} Try.checked os 7 .any (Rows.replayTwiceSpec.pre6 enc Try.prog Try.f7 Rows.replayTwiceRow.domain false) (Rows.replayTwiceSpec.post enc Try.prog Try.f7 false true false false) := by
  refine law_frame (C := Try.checked) rfl Try.own started (by kernel_rfl) Try.func7
    (ChangeSpec.witness6 (enc := enc) (C := Try.checked) false ⟨#[], #[.slice none 0 0, .int .i64 0, .slice none 0 0, .slice none 0 0], []⟩ 8 (by kernel_rfl) (by kernel_rfl) (by kernel_rfl) (by kernel_rfl))
    Try.laidOut ?_ 4 rfl Try.underlying4 ?_ ?_
  · rw [Try.params7]
    intro t ht
    simp at ht
    rcases ht with rfl | rfl | rfl <;> exact ⟨by kernel_rfl, of_decide_eq_true (by kernel_rfl)⟩
  · intro ds hn
    rw [Try.params7] at hn
    match ds, hn with
    | [d1, d2, d3, d4], _ => rfl
  · intro W base args ds p hval0 hA hsz
    have hval : ∀ (j : Nat) t v, Try.f7.params[j]? = some t → args[j]? = some v → Value.okWide Try.prog W .any base t v := hval0
    rw [Try.params7] at hA hsz hval
    obtain ⟨v0, vs0, d0, ds0, p0, q0, hargs, rfl, rfl, h0, r0⟩ := trodAll_cons hA
    obtain ⟨v1, vs1, d1, ds1, p1, q1, rfl, rfl, rfl, h1, r1⟩ := trodAll_cons r0
    obtain ⟨v2, vs2, d2, ds2, p2, q2, rfl, rfl, rfl, h2, r2⟩ := trodAll_cons r1
    obtain ⟨v3, vs3, d3, ds3, p3, q3, rfl, rfl, rfl, h3, r3⟩ := trodAll_cons r2
    obtain ⟨rfl, rfl, rfl⟩ := trodAll_nil r3
    obtain rfl : args = #[v0, v1, v2, v3] := by cases args; simp_all
    obtain ⟨l0, hbs0, hl0⟩ := Bs.came Try.underlying37 Try.underlying5 (by kernel_rfl) (hval 0 37 v0 rfl rfl) h0
    have hlen0 := came_len hsz (j := 0) (t := 37) rfl rfl Try.underlying37 (by kernel_rfl) hl0
    obtain ⟨a1, rfl, rfl, rfl, w1⟩ := open_int Try.underlying3 (hval 1 3 v1 rfl rfl) h1
    have hb1 := bounds_i64 w1
    obtain ⟨l2, hrs2, hln2, hls2, hnn2⟩ := rs_came (hval 2 22 v2 rfl rfl) h2 hsz (j := 2) rfl rfl
    obtain ⟨l3, hrs3, hln3, hls3, hnn3⟩ := rs_came (hval 3 22 v3 rfl rfl) h3 hsz (j := 3) rfl rfl
    exact twice_walk a1 hbs0 (by omega) hrs2 hln2 hls2 hnn2 hrs3 hln3 hls3 hnn3

theorem replayTwice_holds : Rows.ReplayTwiceSaid :=
  OpenClaim.holds_of_wide 7 Try.f7 rfl rfl rfl rfl rfl rfl rfl ⟨rfl, rfl, rfl, rfl, rfl⟩ rfl rfl rfl rfl rfl (by kernel_rfl) Try.func7 (by kernel_rfl)
    (of_decide_eq_true (by kernel_rfl)) (by unfold Func.isWrapper; first | (rw [if_pos (by decide +kernel)]; kernel_rfl) | (rw [if_neg (by decide +kernel)]; exact ⟨rfl, rfl⟩))
    (fun os started H enc _ => replayTwice_lifted os started H enc)
#print axioms replayTwice_holds
end Go.Proofs.Ytgdlbfoihpdlhaa
