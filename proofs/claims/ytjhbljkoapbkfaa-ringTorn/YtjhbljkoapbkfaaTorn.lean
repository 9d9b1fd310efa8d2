/- RingTorn: where the power goes behind records that were not synced, whichever sectors reach the disk, the ring that is opened again holds all that it held at the sync, and a beginning of what was appended behind that. No conditions. -/
import Derived.Test.YtjhbljkoapbkfaaCameL
import Derived.Test.YtjhbljkoapbkfaaLt
set_option linter.unusedSimpArgs false
set_option linter.unusedVariables false
namespace Go.Proofs.Ytjhbljkoapbkfaa
open Go.RowKit Go.Attic Go.ChangeShapes Go.WideShapes Go.Shelf

theorem Rs.take {F : Nat → Prop} {w : World} {ao : Option Addr} {n cap k : Nat} {rs : List Rc} (h : Rs w F (.slice ao n cap) rs) (hk : k ≤ rs.length) : Rs w F (.slice ao k cap) (rs.take k) := by
  obtain ⟨ao', cap', vs, e, h1, h2, h3, h4⟩ := h
  injection e with e1 e2 e3
  subst e1 e2 e3
  have hl : (rs.take k).length = k := by simp; omega
  refine ⟨ao, cap, vs.take k, by rw [hl], by omega, by simp; omega, fun hp => ?_, fun i hi hv => ?_⟩
  · obtain ⟨b, off, e, hF, hc⟩ := h3 (by omega)
    refine ⟨b, off, e, hF, fun i hi hv => ?_⟩
    have := hc i (by omega) (by omega)
    simpa using this
  · have := h4 i (by omega) (by omega)
    simpa using this

set_option maxRecDepth 100000 in
/-- append of records to a row that is one's own. -/
theorem wpList_append_rs {ops : Array Oper} {rest : List Oper} {o : Oper} {a : Act} {Q : Exit → Act → World → Prop} (w : World) (hgd : o.guard = none) (s x : Operand) (ho : o.op = .call { callee := .builtin .append, args := #[s, x], argTypes := #[22, 22] })
    (v : Value) (rs0 : List Rc) (vs0 : List Value) (hs : a.eval s = v) (hown : w.ownsRow 0 62 5 v rs0.length (cellsR rs0 vs0)) (hl0 : vs0.length = rs0.length) (vx : Value) (rs : List Rc) (F : Nat → Prop) (hx : a.eval x = vx) (hr : Rs w F vx rs) (hnone : ∀ n c, vx = .slice none n c → c = 0) (hb : rs0.length + rs.length ≤ 4096)
    (h : ∀ v' vs w', w'.ownsRow 0 62 5 v' (rs0 ++ rs).length (cellsR (rs0 ++ rs) (vs0 ++ vs)) → vs.length = rs.length → (∀ i (hi : i < rs.length) (hv : i < vs.length), Bs w vs[i] (rs[i]).l ∧ (0 < (rs[i]).l.length → ∀ k, vs[i].ownBlock = some k → F k)) → w.grownBy w' v.ownBlock → (v'.ownBlock = v.ownBlock ∨ v'.ownBlock = some w.heap.size) → wpList Try.prog ops Q rest (a.put o.dst v') w') : wpList Try.prog ops Q (o :: rest) a w := by
  obtain ⟨i0, hi, hz0, hz1, hz2⟩ := info_parts Try.info62
  obtain ⟨ao, cap, vs, rfl, h1, h2, h3, h4⟩ := hr
  have hcl : cellsR (rs0 ++ rs) (vs0 ++ vs) = cellsR rs0 vs0 ++ cellsR rs vs := cellsR_app _ _ _ _ hl0
  have hsl : ∀ u ∈ vs, ∃ ao n c, u = .slice ao n c := fun u hu => by
    obtain ⟨i, hi, rfl⟩ := List.getElem_of_mem hu
    obtain ⟨ao, cap, e, _⟩ := (h4 i (by omega) hi).1
    exact ⟨ao, _, cap, e⟩
  cases ao with
  | none =>
    have h0 : rs = [] := by
      rcases Nat.eq_zero_or_pos rs.length with h | h
      · exact List.eq_nil_of_length_eq_zero h
      · obtain ⟨b, off, e, _⟩ := h3 h; cases e
    subst h0
    have hv0 : vs = [] := List.eq_nil_of_length_eq_zero (by simpa using h2)
    subst hv0
    have hrun := run_append_owned_none (P := Try.prog) (w := w) 0 22 o.type 62 i0 5 Try.underlying22 hi v rs0.length _ hown
    refine wpList_plain hgd fun K hK => ?_
    have hc0 : cap = 0 := hnone _ _ rfl
    subst hc0
    unfold Oper.wp
    simp [execOp, ho, resolve, invoke, builtin, hs, hx, hrun, Result.andThen]
    refine hK _ _ (h v [] w (by simpa [cellsR] using hown) rfl (by simp) (World.grownBy.refl _ _) (.inl rfl))
  | some ad =>
    have hcells : ∀ j u, (cellsR rs vs)[j]? = some u → w.cell? (ad.add j) = some u := by
      intro j u hj
      have hjl : j < rs.length * 5 := by rw [← cellsR_length rs vs h2]; exact (List.getElem?_eq_some_iff.1 hj).1
      obtain ⟨b, off, e, hF, hc⟩ := h3 (by omega)
      injection e with e
      subst e
      have hat := hc (j / 5) (by omega) (by omega)
      have hj2 := cellsR_at h2 (j / 5) (by omega) (j % 5) (by omega)
      rw [show j / 5 * 5 + j % 5 = j by omega, hj] at hj2
      rw [Addr.add_lit, show off + j = off + j / 5 * 5 + j % 5 by omega]
      have h5 : j % 5 = 0 ∨ j % 5 = 1 ∨ j % 5 = 2 ∨ j % 5 = 3 ∨ j % 5 = 4 := by omega
      rcases h5 with h5 | h5 | h5 | h5 | h5
      all_goals
        rw [h5] at hj2 ⊢
        simp only [Rc.cells, List.getElem?_cons_zero, List.getElem?_cons_succ] at hj2
        injection hj2 with hj2
        subst hj2
      · exact hat.c0
      · exact hat.c1
      · exact hat.c2
      · exact hat.c3
      · exact hat.c4
    refine wpList_append_own_at w hgd s x 22 ho 0 62 i0 (.agg #[.int .i64 0, .int .i64 0, .int .i64 0, .slice none 0 0, .int .i64 0]) 5 56 Try.underlying22 hi hz0 hz1 hz2 rfl (by decide) v rs0.length (cellsR rs0 vs0) hs hown ad rs.length cap (cellsR rs vs) hx (cellsR_length _ _ h2) hcells (cellsR_one _ _ hsl) (by unfold maxLen; omega) (by omega) (Nat.zero_le _) ?_
    intro v' w' ho' hg' _ hat'
    exact h v' vs w' (by rw [hcl]; simpa using ho') h2 h4 hg' hat'

theorem newS_ok (n : Nat) (h1 : 1 ≤ n) (h2 : n ≤ 2048) : (newS n).Ok n := ofS_ok (by rw [List.length_replicate]; omega) h1 h2 (fun x hx => by have := List.eq_of_mem_replicate hx; omega)

/-- Two lists of records, one behind the other in a new row. -/
theorem rs_joined {w w6 w7 w8 : World} {A M : List Rc} {v7 : Value} {vs7 vs8 : List Value} {ao8 : Option Addr} {cp8 : Nat} (h06 : w.heap.size ≤ w6.heap.size)
    (ho7 : w7.ownsRow 0 62 5 v7 ([] ++ A).length (cellsR ([] ++ A) ([] ++ vs7))) (hl7 : vs7.length = A.length) (hbs7 : ∀ i (hi : i < A.length) (hv : i < vs7.length), Bs (w6.alloc (.cells #[] 62)) vs7[i] (A[i]).l ∧ (0 < (A[i]).l.length → ∀ k, vs7[i].ownBlock = some k → k < w.heap.size))
    (hg7 : (w6.alloc (.cells #[] 62)).grownBy w7 (Value.slice (some ⟨w6.heap.size, 0, none⟩) 0 0).ownBlock) (hat7 : v7.ownBlock = (Value.slice (some ⟨w6.heap.size, 0, none⟩) 0 0).ownBlock ∨ v7.ownBlock = some (w6.alloc (.cells #[] 62)).heap.size)
    (ho8 : w8.ownsRow 0 62 5 (.slice ao8 ([] ++ A ++ M).length cp8) ([] ++ A ++ M).length (cellsR ([] ++ A ++ M) ([] ++ vs7 ++ vs8))) (hl8 : vs8.length = M.length) (hbs8 : ∀ i (hi : i < M.length) (hv : i < vs8.length), Bs w7 vs8[i] (M[i]).l ∧ (0 < (M[i]).l.length → ∀ k, vs8[i].ownBlock = some k → k < w.heap.size))
    (hg8 : w7.grownBy w8 v7.ownBlock) (hat8 : (Value.slice ao8 ([] ++ A ++ M).length cp8).ownBlock = v7.ownBlock ∨ (Value.slice ao8 ([] ++ A ++ M).length cp8).ownBlock = some w7.heap.size) :
    Rs w8 (fun k => k < w.heap.size ∨ (w6.heap.size ≤ k ∧ k < w8.heap.size)) (.slice ao8 ([] ++ A ++ M).length cp8) (A ++ M) ∧ Keeps (fun k => w6.heap.size ≤ k) w6 w8 := by
  have hk7 : Keeps (fun k => w6.heap.size ≤ k) w6 w7 := (Keeps.alloc _ _).trans ((keeps_grown hg7).mono (fun k hk => by have e : some w6.heap.size = some k := hk; injection e with e; omega))
  have hv7 : ∀ k, v7.ownBlock = some k → w6.heap.size ≤ k := fun k hk => by
    rcases hat7 with e | e
    · rw [e] at hk
      have e' : some w6.heap.size = some k := hk
      injection e' with e'; omega
    · rw [e] at hk
      have e' : some (w6.alloc (.cells #[] 62)).heap.size = some k := hk
      injection e' with e'; simp at e'; omega
  have hk8 : Keeps (fun k => w6.heap.size ≤ k) w6 w8 := hk7.trans ((keeps_grown hg8).mono (fun k hk => hv7 k hk))
  have hz8 : w6.heap.size ≤ w8.heap.size := hk8.size
  have hz78 : w7.heap.size ≤ w8.heap.size := hg8.size
  have hRs8 : Rs w8 (fun k => k < w.heap.size ∨ (w6.heap.size ≤ k ∧ k < w8.heap.size)) (.slice ao8 ([] ++ A ++ M).length cp8) (A ++ M) := by
    have hrw : Rw w8 (Value.slice ao8 ([] ++ A ++ M).length cp8).ownBlock (fun k => k < w.heap.size ∨ (w6.heap.size ≤ k ∧ k < w8.heap.size)) (.slice ao8 ([] ++ A ++ M).length cp8) (A ++ M) (vs7 ++ vs8) := by
      refine ⟨by simpa using ho8, rfl, by simp [hl7, hl8], fun k hk => .inr ⟨?_, owns_lt' ho8 k hk⟩, fun i hi hv => ?_⟩
      · rcases hat8 with e | e
        · exact hv7 k (e.symm.trans hk)
        · rw [e] at hk
          injection hk with hk
          have := hk7.size; omega
      · have hrb : ∀ k, (Value.slice ao8 ([] ++ A ++ M).length cp8).ownBlock = some k → w6.heap.size ≤ k := fun k hk => by
          rcases hat8 with e | e
          · exact hv7 k (e.symm.trans hk)
          · rw [e] at hk
            injection hk with hk
            have := hk7.size; omega
        have hz06 := h06
        by_cases hiA : i < A.length
        · have hi7 : i < vs7.length := by omega
          simp only [List.getElem_append_left hiA, List.getElem_append_left hi7]
          obtain ⟨b1, b2⟩ := hbs7 i hiA hi7
          refine ⟨keeps_bs ((keeps_grown hg7).trans' (keeps_grown hg8) (fun k hk => ?_) |> fun q => q) b1 (fun hp k hk h => ?_), fun hp k hk => ⟨.inl (b2 hp k hk), fun e => ?_⟩⟩
          · rcases hat7 with e | e
            · exact .inl (e.symm.trans hk)
            · rw [e] at hk; injection hk with hk; exact .inr (by omega)
          · have h1 := b2 hp k hk
            have e' : some w6.heap.size = some k := h
            injection e' with e'; omega
          · have h1 := b2 hp k hk
            have := hrb k e; omega
        · have hiM : i - A.length < M.length := by simp at hi; omega
          have hi8 : i - vs7.length < vs8.length := by omega
          simp only [List.getElem_append_right (show A.length ≤ i by omega), List.getElem_append_right (show vs7.length ≤ i by omega)]
          have e0 : i - vs7.length = i - A.length := by omega
          obtain ⟨b1, b2⟩ := hbs8 (i - A.length) hiM (by omega)
          simp only [e0]
          refine ⟨keeps_bs (keeps_grown hg8) b1 (fun hp k hk h => ?_), fun hp k hk => ⟨.inl (b2 hp k hk), fun e => ?_⟩⟩
          · have h1 := b2 hp k hk
            have := hv7 k h; omega
          · have h1 := b2 hp k hk
            have := hrb k e; omega
    exact hrw.rs
  exact ⟨hRs8, hk8⟩

set_option maxRecDepth 100000 in
set_option maxHeartbeats 2000000 in
theorem torn_walk (v0 v1 v2 : Value) (A0 M0 : List Rc) (picks : List Nat) (w : World) (hA : Rs w (fun k => k < w.heap.size) v0 A0) (hAl : A0.length ≤ 140737488355328) (hAls : ∀ x ∈ A0, x.l.length ≤ 140737488355328) (hAn : ∀ n c, v0 = .slice none n c → c = 0)
    (hM : Rs w (fun k => k < w.heap.size) v1 M0) (hMl : M0.length ≤ 140737488355328) (hMls : ∀ x ∈ M0, x.l.length ≤ 140737488355328) (hMn : ∀ n c, v1 = .slice none n c → c = 0) (hP : Bs w v2 picks) (hPl : picks.length ≤ 140737488355328) :
    Calls Try.prog 3 #[v0, v1, v2] w fun e w' => e = .returned (.bool true) ∧ Below w.heap.size w w' := by
  obtain ⟨a0, c0, rfl, hc0⟩ := hA.slice
  obtain ⟨a1, c1, rfl, hc1⟩ := hM.slice
  obtain ⟨a2, c2, rfl, -⟩ := id hP
  obtain ⟨n0, hn0⟩ : ∃ n0, A0.length = n0 := ⟨_, rfl⟩
  obtain ⟨n1, hn1⟩ : ∃ n1, M0.length = n1 := ⟨_, rfl⟩
  rw [hn0] at hA hAn hc0 ⊢
  rw [hn1] at hM hMn hc1 ⊢
  have HAn := hide hAn
  have HMn := hide hMn
  clear hAn hMn
  have HA := hide hA
  have HM := hide hM
  have HP := hide hP
  have Hn0 := hide hn0
  have Hn1 := hide hn1
  clear hA hM hP hn0 hn1
  go_enter Try.func3, Try.ntmps3
  go_wp2_with fail
  refine (new_yes 12 w (by omega) (by omega)).mono ?_
  rintro e w1 ⟨g, m, rfl, hD1, hb1, hg1, hm1⟩
  go_wp2_with fail
  refine (live_any _).mono ?_
  rintro e w2 ⟨rfl, hb2⟩
  have hb02 : Below w.heap.size w w2 := hb1.trans (hb2.mono hb1.size)
  have hz1 : w.heap.size ≤ w1.heap.size := hb1.size
  have hz2 : w1.heap.size ≤ w2.heap.size := hb2.size
  have hD2 := hD1.mono hb2
  have h0ok := hD1.ok
  have hopen : Calls Try.prog 9 #[.pointer (some ⟨g, 0, none⟩), .int .i64 2, .int .i64 10, .int .i64 40] w2 _ := open_on hD2 rfl (Nat.zero_le _) 2 10 40 (by omega) (by omega) (by omega) (by omega)
  go_wp2_with fail
  refine hopen.mono ?_
  rintro e w3 ⟨rs, r, v, Fr, rfl, hsc, hR3, hr3, hFr3, hRs3, hb3⟩
  obtain rfl := scanned_new (by omega) (by omega) hsc
  have hRD3 := RD.opened hD2 hb3 hR3 hr3 hFr3 (by omega)
  obtain ⟨ao3, cap3, hv, -⟩ := hRs3.slice
  simp only [List.length_nil] at hv
  subst hv
  have hb03 : Below w.heap.size w w3 := hb02.trans (hb3.mono hb02.size)
  have hz3 : w2.heap.size ≤ w3.heap.size := hb3.size
  have hown3 : ∀ k, OwnR r g m (fun _ => False) Fr k → w.heap.size ≤ k := fun k hk => by
    rcases hk with (h | h | h) | h | h
    · omega
    · omega
    · exact h.elim
    · omega
    · have := hFr3 k h; omega
  obtain ⟨A, er1, s1, hc1', -, hAok, hAlt, hAroom, -, hA1, hcall1⟩ := app_calm hRD3 _ A0 _ (HA.out.mono hb03) hAl hAls (fun k hk => ⟨by have := hb03.size; omega, fun h => by have := hown3 k h; omega⟩) (by have : (newS 12).pend.length = 0 := rfl; omega) (by have : (newS 12).ops = 0 := rfl; omega) rfl rfl
  rw [List.length_nil, Nat.zero_add, Nat.add_zero] at *
  rw [List.nil_append] at hcall1
  clear hopen hsc hRs3
  go_wp2_with fail
  refine hcall1.mono ?_
  rintro e w4 ⟨rfl, p4, F4, Fr4, hRD4, hk4, hF4⟩
  have hb04 : Below w.heap.size w w4 := hb03.trans (hk4.below hown3 hb03.size)
  have hz4 : w3.heap.size ≤ w4.heap.size := hk4.size
  have hF4' : ∀ k, OwnR r g m F4 Fr4 k → w.heap.size ≤ k := fun k hk => by
    have hh : ∀ k, F4 k ∨ Fr4 k → w.heap.size ≤ k := fun k hk => by
      rcases hF4 k hk with h | h | h
      · exact h.elim
      · have := hFr3 k h; omega
      · omega
    rcases hk with (h | h | h) | h | h
    · omega
    · omega
    · exact hh k (.inl h)
    · omega
    · exact hh k (.inr h)
  obtain ⟨s1', q1, q2, q3, q4, q5, q6, q7, -, -⟩ := lay_view (n := 12) (base := 2) (blocks := 10) (by omega) (by omega) A.length (newS 12) 40 A (Nat.le_refl _) h0ok rfl rfl hAok hAlt hAroom
  rw [hA1] at q1
  injection q1 with q1 _
  subst q1
  obtain ⟨f1, f2⟩ := flush_calm q3 q4
  have hp1 : s1.pend.length ≤ 40 := by have : (newS 12).pend.length = 0 := rfl; omega
  have ho1 : s1.ops ≤ 40 := by have : (newS 12).ops = 0 := rfl; omega
  have hsync := sync_yes hRD4 (by omega) (by omega)
  rw [f1] at hsync
  obtain ⟨s2, hs2⟩ : ∃ s2, (flushS s1).1 = s2 := ⟨_, rfl⟩
  rw [hs2] at hsync f2
  have ho2 : s2.ops ≤ 41 := by rw [f2]; simp only; omega
  have hp2 : s2.pend.length = 0 := by rw [f2]; rfl
  have hon2 : s2.on = true := by rw [f2]; exact q3
  have hl2 : s2.left = 0 := by rw [f2]; exact q4
  have Hs2 := hide hs2
  have HA1 := hide hA1
  clear hs2 hA1 f2 f1 hcall1 q3 q4 q5 q6 q7 hD1 hD2 hR3 hRD3 h0ok q2
  rcases hc1' with ⟨he1, hA'⟩ | ⟨hne1, hA'⟩
  · subst he1
    have HF : Rs w (fun k => k < w.heap.size) (.slice a0 n0 c0) A := by rw [hA']; exact HA.out
    have hFn := HAn
    have hlA : A.length = n0 := by rw [hA']; exact Hn0.out
    clear hA'
    go_wp2_with fail
    refine hsync.mono ?_
    rintro e w5 ⟨rfl, p5, F5, Fr5, hRD5, hk5, hF5⟩
    have hb05 : Below w.heap.size w w5 := hb04.trans (hk5.below hF4' hb04.size)
    have hz5 : w4.heap.size ≤ w5.heap.size := hk5.size
    have hF5' : ∀ k, OwnR r g m F5 Fr5 k → w.heap.size ≤ k := fun k hk => by
      have hh : ∀ k, F5 k ∨ Fr5 k → w.heap.size ≤ k := fun k hk => by
        rcases hF5 k hk with h | h | h
        · exact hF4' k (.inl (.inr (.inr h)))
        · exact hF4' k (.inr (.inr h))
        · omega
      rcases hk with (h | h | h) | h | h
      · omega
      · omega
      · exact hh k (.inl h)
      · omega
      · exact hh k (.inr h)
    have hs2ok := hRD5.dk.ok
    obtain ⟨M, er2, s3, hc2', -, hMok, hMlt, hMroom, -, hM1, hcall2⟩ := app_calm hRD5 _ M0 _ (HM.out.mono hb05) hMl hMls (fun k hk => ⟨by have := hb05.size; omega, fun h => by have := hF5' k h; omega⟩) (by omega) (by omega) hon2 hl2
    obtain ⟨s3', t1, t2, t3, t4, t5, t6, t7, -, -⟩ := lay_view (n := 12) (base := 2) (blocks := 10) (by omega) (by omega) M.length s2 (40 + A.length) M (Nat.le_refl _) hs2ok hon2 hl2 hMok hMlt (by omega)
    rw [hM1] at t1
    injection t1 with t1 _
    subst t1
    have HM1 := hide hM1
    clear hsync hM1 hRD4 hRD5
    go_wp2_with fail
    refine hcall2.mono ?_
    rintro e w6 ⟨rfl, p6, F6, Fr6, hRD6, hk6, hF6⟩
    have hb06 : Below w.heap.size w w6 := hb05.trans (hk6.below hF5' hb05.size)
    have hz6 : w5.heap.size ≤ w6.heap.size := hk6.size
    have hF6' : ∀ k, F6 k → w.heap.size ≤ k := fun k hk => by
      rcases hF6 k (.inl hk) with h | h | h
      · exact hF5' k (.inl (.inr (.inr h)))
      · exact hF5' k (.inr (.inr h))
      · omega
    have hs3ok := hRD6.dk.ok
    have hD6 := hRD6.dk
    have hgl6 := hD6.gl
    have hml6 := hD6.ml
    have hFl6 := hD6.Fl
    have hp3 : s3.pend.length ≤ 40 := by omega
    clear hcall2
    rcases hc2' with ⟨he2, hM'⟩ | ⟨hne2, hM'⟩
    · subst he2
      have HG : Rs w (fun k => k < w.heap.size) (.slice a1 n1 c1) M := by rw [hM']; exact HM.out
      have hGn := HMn
      have hlM : M.length = n1 := by rw [hM']; exact Hn1.out
      clear hM'
      have HFF := hide (HF.mono hb06)
      have HGG := hide (HG.mono hb06)
      have HlM := hide hlM
      have HlA := hide hlA
      clear hlM hlA HF HG
      go_wp2_with (at_builtin; first
        | (refine wpList_append_rs _ rfl (.tmp 55) (.tmp 56) rfl (.slice (some ⟨w6.heap.size, 0, none⟩) 0 0) [] [] rfl (World.ownsRow_lit w6 #[] 0 (Nat.zero_le _) (by simp) (by simp [cellsR])) rfl _ A (fun k => k < w.heap.size) rfl (HFF.out.mono ((Below.refl _ _).alloc (Nat.le_refl _) _)) hFn.out (by simp; omega) ?_; intro v7 vs7 w7 ho7 hl7 hbs7 hg7 hat7)
        | (refine wpList_append_rs _ rfl (.tmp 57) (.tmp 58) rfl v7 ([] ++ A) ([] ++ vs7) rfl ho7 (by simpa using hl7) _ M (fun k => k < w.heap.size) rfl (HGG.out.keeps (S := fun k => w6.heap.size ≤ k) ((Keeps.alloc _ _).trans ((keeps_grown hg7).mono (fun k hk => by have e : some w6.heap.size = some k := hk; injection e with e; omega))) (fun k hk h => by have := hb06.size; omega)) hGn.out (by simp; omega) ?_; intro v8 vs8 w8 ho8 hl8 hbs8 hg8 hat8; obtain ⟨ao8, cp8, rfl, hcp8, hgo8⟩ := owns_form ho8))
      obtain ⟨hRs8, hk8⟩ := rs_joined (w := w) (w6 := w6) hb06.size ho7 hl7 hbs7 hg7 hat7 ho8 hl8 hbs8 hg8 hat8
      have hz8 : w6.heap.size ≤ w8.heap.size := hk8.size
      have HRs8 := hide hRs8
      clear hRs8 ho7 hl7 hbs7 hg7 hat7 ho8 hl8 hbs8 hg8 hat8
      have hD8 := hD6.keeps hk8 (by omega) (by omega) (fun k hk h => by have := hFl6 k hk; omega)
      have hb08 : Below w.heap.size w w8 := hb06.trans (hk8.below (fun k hk => by have := hb06.size; omega) hb06.size)
      have hcr := crash_yes hD8 (.slice a2 picks.length c2) picks (HP.out.mono hb08) (fun _ b hb e => by
        have h1 := bs_lt2 HP.out (by assumption) b hb
        omega) (by omega) hPl
      have e4 : crashS s3 picks = (crashed s3 picks, 0) := by simp [crashS, t3]
      rw [e4] at hcr
      have e5 : restartS (crashed s3 picks) = ({ crashed s3 picks with on := true }, 0) := by simp [restartS, crashed]
      have E4 := hide e4
      have E5 := hide e5
      clear e4 e5
      go_wp2_with fail
      refine hcr.mono ?_
      rintro e w9 ⟨rfl, p9, F9, hD9, hk9, hF9⟩
      have hrs := restart_yes hD9
      rw [E5.out] at hrs
      clear hcr
      go_wp2_with fail
      refine hrs.mono ?_
      rintro e wA ⟨rfl, pA, FA, hDA, hkA, hFA⟩
      have hopen2 : Calls Try.prog 9 #[.pointer (some ⟨g, 0, none⟩), .int .i64 2, .int .i64 10, .int .i64 40] wA _ := open_on hDA rfl (Nat.zero_le _) 2 10 40 (by omega) (by omega) (by omega) (by omega)
      clear hrs
      go_wp2_with fail
      refine hopen2.mono ?_
      rintro e wB ⟨rsB, rB, vB, FrB, rfl, hscB, hRB, hrB, hFrB, hRsB, hbB⟩
      have hpure := torn_pure (picks := picks) hAok hAlt hMok hMlt (newS_ok 12 (by omega) (by omega)) (by omega) HA1.out (by rw [Hs2.out]; exact hs2ok) (by rw [Hs2.out]; exact HM1.out) hs3ok (by rw [E4.out]; show Scanned (secAt (restartS (crashed s3 picks)).1 2 10) 40 (4 * 10) rsB; rw [E5.out]; exact hscB)
      obtain ⟨l1, l2, l3⟩ := hpure
      have hz9 : w8.heap.size ≤ w9.heap.size := hk9.size
      have hzA : w9.heap.size ≤ wA.heap.size := hkA.size
      have hFg : ∀ k, (k < w.heap.size ∨ (w6.heap.size ≤ k ∧ k < w8.heap.size)) → ¬ Own g m F6 k := fun k hk h => by
        have hz06 := hb06.size
        rcases h with h | h | h
        · omega
        · omega
        · have := hFl6 k h
          have := hF6' k h
          omega
      have hF9g : ∀ k, (k < w.heap.size ∨ (w6.heap.size ≤ k ∧ k < w8.heap.size)) → ¬ Own g m F9 k := fun k hk h => by
        rcases h with h | h | h
        · exact hFg k hk (.inl h)
        · exact hFg k hk (.inr (.inl h))
        · rcases hF9 k h with h | h
          · exact hFg k hk (.inr (.inr h))
          · have hz06 := hb06.size; omega
      have hRsC := ((HRs8.out.keeps hk9 hFg).keeps hkA hF9g).mono hbB
      obtain ⟨aB, cB, rfl, hcB⟩ := hRsB.slice
      have hRsD := Rs.take (k := rsB.length) hRsC (by simp; omega)
      rw [← l3] at hRsD
      have hsame := fun W (hB : Below wB.heap.size wB W) => sameAll_yes W _ _ _ _ rsB (hRsB.mono hB) (hRsD.mono hB) (by omega)
      have htl := fun W (hB : Below wB.heap.size wB W) => tail_yes (hRB.mono hB)
      have hb0B : Below w.heap.size w wB := by
        have k9 := hk9.below (B := w.heap.size) (fun k hk => by
          rcases hk with h | h | h
          · omega
          · omega
          · exact hF6' k h) hb08.size
        have hb09 := hb08.trans k9
        have kA := hkA.below (B := w.heap.size) (fun k hk => by
          rcases hk with h | h | h
          · omega
          · omega
          · rcases hF9 k h with h | h
            · exact hF6' k h
            · have := hb08.size; omega) hb09.size
        have hb0A := hb09.trans kA
        exact hb0A.trans (hbB.mono hb0A.size)
      have hlen8 : ([] ++ A ++ M).length = A.length + M.length := by simp
      obtain ⟨LB, hLB⟩ : ∃ LB, rsB.length = LB := ⟨_, rfl⟩
      obtain ⟨LS, hLS⟩ : ∃ LS, A.length + M.length = LS := ⟨_, rfl⟩
      rw [hLB] at hsame htl l1 l2 hcB ⊢
      rw [hLS] at l2 ⊢
      have hcp : LS ≤ cp8 := by rw [← hLS, ← hlen8]; exact hcp8
      have hAL : n0 ≤ LB := by have := HlA.out; omega
      have hLB40 : LB ≤ 40 := by omega
      have HLB := hide hLB
      have HLS := hide hLS
      clear hRsC hRsD hRsB hRB hDA hD9 hD8 hD6 hRD6 hopen2 hscB hLB hLS hlen8 l3
      go_wp2_with fail
      refine (hsame _ (Below.refl _ _)).mono ?_
      rintro e wC ⟨rfl, hbC⟩
      have htl2 := htl wC hbC
      clear hsame htl
      go_wp2_with fail
      refine htl2.mono ?_
      rintro e wD ⟨rfl, nD, rfl⟩
      go_wp2_with fail
      go_ret
      exact ⟨by simp, below_drewN (hb0B.trans (hbC.mono hb0B.size)) _⟩
    · have HG : Rs w (fun k => k < w.heap.size) (.slice none 0 0) M := by rw [hM']; exact Rs.nil _ _
      have hGn : Hid (∀ n c, Value.slice none 0 0 = .slice none n c → c = 0) := hide (fun n c e => by injection e with _ _ e; exact e.symm)
      have hlM : M.length = 0 := by rw [hM']; rfl
      clear hM'
      have HFF := hide (HF.mono hb06)
      have HGG := hide (HG.mono hb06)
      have HlM := hide hlM
      have HlA := hide hlA
      clear hlM hlA HF HG
      go_wp2_with (at_builtin; first
        | (refine wpList_append_rs _ rfl (.tmp 55) (.tmp 56) rfl (.slice (some ⟨w6.heap.size, 0, none⟩) 0 0) [] [] rfl (World.ownsRow_lit w6 #[] 0 (Nat.zero_le _) (by simp) (by simp [cellsR])) rfl _ A (fun k => k < w.heap.size) rfl (HFF.out.mono ((Below.refl _ _).alloc (Nat.le_refl _) _)) hFn.out (by simp; omega) ?_; intro v7 vs7 w7 ho7 hl7 hbs7 hg7 hat7)
        | (refine wpList_append_rs _ rfl (.tmp 57) (.tmp 58) rfl v7 ([] ++ A) ([] ++ vs7) rfl ho7 (by simpa using hl7) _ M (fun k => k < w.heap.size) rfl (HGG.out.keeps (S := fun k => w6.heap.size ≤ k) ((Keeps.alloc _ _).trans ((keeps_grown hg7).mono (fun k hk => by have e : some w6.heap.size = some k := hk; injection e with e; omega))) (fun k hk h => by have := hb06.size; omega)) hGn.out (by simp; omega) ?_; intro v8 vs8 w8 ho8 hl8 hbs8 hg8 hat8; obtain ⟨ao8, cp8, rfl, hcp8, hgo8⟩ := owns_form ho8))
      obtain ⟨hRs8, hk8⟩ := rs_joined (w := w) (w6 := w6) hb06.size ho7 hl7 hbs7 hg7 hat7 ho8 hl8 hbs8 hg8 hat8
      have hz8 : w6.heap.size ≤ w8.heap.size := hk8.size
      have HRs8 := hide hRs8
      clear hRs8 ho7 hl7 hbs7 hg7 hat7 ho8 hl8 hbs8 hg8 hat8
      have hD8 := hD6.keeps hk8 (by omega) (by omega) (fun k hk h => by have := hFl6 k hk; omega)
      have hb08 : Below w.heap.size w w8 := hb06.trans (hk8.below (fun k hk => by have := hb06.size; omega) hb06.size)
      have hcr := crash_yes hD8 (.slice a2 picks.length c2) picks (HP.out.mono hb08) (fun _ b hb e => by
        have h1 := bs_lt2 HP.out (by assumption) b hb
        omega) (by omega) hPl
      have e4 : crashS s3 picks = (crashed s3 picks, 0) := by simp [crashS, t3]
      rw [e4] at hcr
      have e5 : restartS (crashed s3 picks) = ({ crashed s3 picks with on := true }, 0) := by simp [restartS, crashed]
      have E4 := hide e4
      have E5 := hide e5
      clear e4 e5
      go_wp2_with fail
      refine hcr.mono ?_
      rintro e w9 ⟨rfl, p9, F9, hD9, hk9, hF9⟩
      have hrs := restart_yes hD9
      rw [E5.out] at hrs
      clear hcr
      go_wp2_with fail
      refine hrs.mono ?_
      rintro e wA ⟨rfl, pA, FA, hDA, hkA, hFA⟩
      have hopen2 : Calls Try.prog 9 #[.pointer (some ⟨g, 0, none⟩), .int .i64 2, .int .i64 10, .int .i64 40] wA _ := open_on hDA rfl (Nat.zero_le _) 2 10 40 (by omega) (by omega) (by omega) (by omega)
      clear hrs
      go_wp2_with fail
      refine hopen2.mono ?_
      rintro e wB ⟨rsB, rB, vB, FrB, rfl, hscB, hRB, hrB, hFrB, hRsB, hbB⟩
      have hpure := torn_pure (picks := picks) hAok hAlt hMok hMlt (newS_ok 12 (by omega) (by omega)) (by omega) HA1.out (by rw [Hs2.out]; exact hs2ok) (by rw [Hs2.out]; exact HM1.out) hs3ok (by rw [E4.out]; show Scanned (secAt (restartS (crashed s3 picks)).1 2 10) 40 (4 * 10) rsB; rw [E5.out]; exact hscB)
      obtain ⟨l1, l2, l3⟩ := hpure
      have hz9 : w8.heap.size ≤ w9.heap.size := hk9.size
      have hzA : w9.heap.size ≤ wA.heap.size := hkA.size
      have hFg : ∀ k, (k < w.heap.size ∨ (w6.heap.size ≤ k ∧ k < w8.heap.size)) → ¬ Own g m F6 k := fun k hk h => by
        have hz06 := hb06.size
        rcases h with h | h | h
        · omega
        · omega
        · have := hFl6 k h
          have := hF6' k h
          omega
      have hF9g : ∀ k, (k < w.heap.size ∨ (w6.heap.size ≤ k ∧ k < w8.heap.size)) → ¬ Own g m F9 k := fun k hk h => by
        rcases h with h | h | h
        · exact hFg k hk (.inl h)
        · exact hFg k hk (.inr (.inl h))
        · rcases hF9 k h with h | h
          · exact hFg k hk (.inr (.inr h))
          · have hz06 := hb06.size; omega
      have hRsC := ((HRs8.out.keeps hk9 hFg).keeps hkA hF9g).mono hbB
      obtain ⟨aB, cB, rfl, hcB⟩ := hRsB.slice
      have hRsD := Rs.take (k := rsB.length) hRsC (by simp; omega)
      rw [← l3] at hRsD
      have hsame := fun W (hB : Below wB.heap.size wB W) => sameAll_yes W _ _ _ _ rsB (hRsB.mono hB) (hRsD.mono hB) (by omega)
      have htl := fun W (hB : Below wB.heap.size wB W) => tail_yes (hRB.mono hB)
      have hb0B : Below w.heap.size w wB := by
        have k9 := hk9.below (B := w.heap.size) (fun k hk => by
          rcases hk with h | h | h
          · omega
          · omega
          · exact hF6' k h) hb08.size
        have hb09 := hb08.trans k9
        have kA := hkA.below (B := w.heap.size) (fun k hk => by
          rcases hk with h | h | h
          · omega
          · omega
          · rcases hF9 k h with h | h
            · exact hF6' k h
            · have := hb08.size; omega) hb09.size
        have hb0A := hb09.trans kA
        exact hb0A.trans (hbB.mono hb0A.size)
      have hlen8 : ([] ++ A ++ M).length = A.length + M.length := by simp
      obtain ⟨LB, hLB⟩ : ∃ LB, rsB.length = LB := ⟨_, rfl⟩
      obtain ⟨LS, hLS⟩ : ∃ LS, A.length + M.length = LS := ⟨_, rfl⟩
      rw [hLB] at hsame htl l1 l2 hcB ⊢
      rw [hLS] at l2 ⊢
      have hcp : LS ≤ cp8 := by rw [← hLS, ← hlen8]; exact hcp8
      have hAL : n0 ≤ LB := by have := HlA.out; omega
      have hLB40 : LB ≤ 40 := by omega
      have HLB := hide hLB
      have HLS := hide hLS
      clear hRsC hRsD hRsB hRB hDA hD9 hD8 hD6 hRD6 hopen2 hscB hLB hLS hlen8 l3
      go_wp2_with fail
      refine (hsame _ (Below.refl _ _)).mono ?_
      rintro e wC ⟨rfl, hbC⟩
      have htl2 := htl wC hbC
      clear hsame htl
      go_wp2_with fail
      refine htl2.mono ?_
      rintro e wD ⟨rfl, nD, rfl⟩
      go_wp2_with fail
      go_ret
      exact ⟨by simp, below_drewN (hb0B.trans (hbC.mono hb0B.size)) _⟩
  · have HF : Rs w (fun k => k < w.heap.size) (.slice none 0 0) A := by rw [hA']; exact Rs.nil _ _
    have hFn : Hid (∀ n c, Value.slice none 0 0 = .slice none n c → c = 0) := hide (fun n c e => by injection e with _ _ e; exact e.symm)
    have hlA : A.length = 0 := by rw [hA']; rfl
    clear hA'
    go_wp2_with fail
    refine hsync.mono ?_
    rintro e w5 ⟨rfl, p5, F5, Fr5, hRD5, hk5, hF5⟩
    have hb05 : Below w.heap.size w w5 := hb04.trans (hk5.below hF4' hb04.size)
    have hz5 : w4.heap.size ≤ w5.heap.size := hk5.size
    have hF5' : ∀ k, OwnR r g m F5 Fr5 k → w.heap.size ≤ k := fun k hk => by
      have hh : ∀ k, F5 k ∨ Fr5 k → w.heap.size ≤ k := fun k hk => by
        rcases hF5 k hk with h | h | h
        · exact hF4' k (.inl (.inr (.inr h)))
        · exact hF4' k (.inr (.inr h))
        · omega
      rcases hk with (h | h | h) | h | h
      · omega
      · omega
      · exact hh k (.inl h)
      · omega
      · exact hh k (.inr h)
    have hs2ok := hRD5.dk.ok
    obtain ⟨M, er2, s3, hc2', -, hMok, hMlt, hMroom, -, hM1, hcall2⟩ := app_calm hRD5 _ M0 _ (HM.out.mono hb05) hMl hMls (fun k hk => ⟨by have := hb05.size; omega, fun h => by have := hF5' k h; omega⟩) (by omega) (by omega) hon2 hl2
    obtain ⟨s3', t1, t2, t3, t4, t5, t6, t7, -, -⟩ := lay_view (n := 12) (base := 2) (blocks := 10) (by omega) (by omega) M.length s2 (40 + A.length) M (Nat.le_refl _) hs2ok hon2 hl2 hMok hMlt (by omega)
    rw [hM1] at t1
    injection t1 with t1 _
    subst t1
    have HM1 := hide hM1
    clear hsync hM1 hRD4 hRD5
    go_wp2_with fail
    refine hcall2.mono ?_
    rintro e w6 ⟨rfl, p6, F6, Fr6, hRD6, hk6, hF6⟩
    have hb06 : Below w.heap.size w w6 := hb05.trans (hk6.below hF5' hb05.size)
    have hz6 : w5.heap.size ≤ w6.heap.size := hk6.size
    have hF6' : ∀ k, F6 k → w.heap.size ≤ k := fun k hk => by
      rcases hF6 k (.inl hk) with h | h | h
      · exact hF5' k (.inl (.inr (.inr h)))
      · exact hF5' k (.inr (.inr h))
      · omega
    have hs3ok := hRD6.dk.ok
    have hD6 := hRD6.dk
    have hgl6 := hD6.gl
    have hml6 := hD6.ml
    have hFl6 := hD6.Fl
    have hp3 : s3.pend.length ≤ 40 := by omega
    clear hcall2
    rcases hc2' with ⟨he2, hM'⟩ | ⟨hne2, hM'⟩
    · subst he2
      have HG : Rs w (fun k => k < w.heap.size) (.slice a1 n1 c1) M := by rw [hM']; exact HM.out
      have hGn := HMn
      have hlM : M.length = n1 := by rw [hM']; exact Hn1.out
      clear hM'
      have HFF := hide (HF.mono hb06)
      have HGG := hide (HG.mono hb06)
      have HlM := hide hlM
      have HlA := hide hlA
      clear hlM hlA HF HG
      go_wp2_with (at_builtin; first
        | (refine wpList_append_rs _ rfl (.tmp 55) (.tmp 56) rfl (.slice (some ⟨w6.heap.size, 0, none⟩) 0 0) [] [] rfl (World.ownsRow_lit w6 #[] 0 (Nat.zero_le _) (by simp) (by simp [cellsR])) rfl _ A (fun k => k < w.heap.size) rfl (HFF.out.mono ((Below.refl _ _).alloc (Nat.le_refl _) _)) hFn.out (by simp; omega) ?_; intro v7 vs7 w7 ho7 hl7 hbs7 hg7 hat7)
        | (refine wpList_append_rs _ rfl (.tmp 57) (.tmp 58) rfl v7 ([] ++ A) ([] ++ vs7) rfl ho7 (by simpa using hl7) _ M (fun k => k < w.heap.size) rfl (HGG.out.keeps (S := fun k => w6.heap.size ≤ k) ((Keeps.alloc _ _).trans ((keeps_grown hg7).mono (fun k hk => by have e : some w6.heap.size = some k := hk; injection e with e; omega))) (fun k hk h => by have := hb06.size; omega)) hGn.out (by simp; omega) ?_; intro v8 vs8 w8 ho8 hl8 hbs8 hg8 hat8; obtain ⟨ao8, cp8, rfl, hcp8, hgo8⟩ := owns_form ho8))
      obtain ⟨hRs8, hk8⟩ := rs_joined (w := w) (w6 := w6) hb06.size ho7 hl7 hbs7 hg7 hat7 ho8 hl8 hbs8 hg8 hat8
      have hz8 : w6.heap.size ≤ w8.heap.size := hk8.size
      have HRs8 := hide hRs8
      clear hRs8 ho7 hl7 hbs7 hg7 hat7 ho8 hl8 hbs8 hg8 hat8
      have hD8 := hD6.keeps hk8 (by omega) (by omega) (fun k hk h => by have := hFl6 k hk; omega)
      have hb08 : Below w.heap.size w w8 := hb06.trans (hk8.below (fun k hk => by have := hb06.size; omega) hb06.size)
      have hcr := crash_yes hD8 (.slice a2 picks.length c2) picks (HP.out.mono hb08) (fun _ b hb e => by
        have h1 := bs_lt2 HP.out (by assumption) b hb
        omega) (by omega) hPl
      have e4 : crashS s3 picks = (crashed s3 picks, 0) := by simp [crashS, t3]
      rw [e4] at hcr
      have e5 : restartS (crashed s3 picks) = ({ crashed s3 picks with on := true }, 0) := by simp [restartS, crashed]
      have E4 := hide e4
      have E5 := hide e5
      clear e4 e5
      go_wp2_with fail
      refine hcr.mono ?_
      rintro e w9 ⟨rfl, p9, F9, hD9, hk9, hF9⟩
      have hrs := restart_yes hD9
      rw [E5.out] at hrs
      clear hcr
      go_wp2_with fail
      refine hrs.mono ?_
      rintro e wA ⟨rfl, pA, FA, hDA, hkA, hFA⟩
      have hopen2 : Calls Try.prog 9 #[.pointer (some ⟨g, 0, none⟩), .int .i64 2, .int .i64 10, .int .i64 40] wA _ := open_on hDA rfl (Nat.zero_le _) 2 10 40 (by omega) (by omega) (by omega) (by omega)
      clear hrs
      go_wp2_with fail
      refine hopen2.mono ?_
      rintro e wB ⟨rsB, rB, vB, FrB, rfl, hscB, hRB, hrB, hFrB, hRsB, hbB⟩
      have hpure := torn_pure (picks := picks) hAok hAlt hMok hMlt (newS_ok 12 (by omega) (by omega)) (by omega) HA1.out (by rw [Hs2.out]; exact hs2ok) (by rw [Hs2.out]; exact HM1.out) hs3ok (by rw [E4.out]; show Scanned (secAt (restartS (crashed s3 picks)).1 2 10) 40 (4 * 10) rsB; rw [E5.out]; exact hscB)
      obtain ⟨l1, l2, l3⟩ := hpure
      have hz9 : w8.heap.size ≤ w9.heap.size := hk9.size
      have hzA : w9.heap.size ≤ wA.heap.size := hkA.size
      have hFg : ∀ k, (k < w.heap.size ∨ (w6.heap.size ≤ k ∧ k < w8.heap.size)) → ¬ Own g m F6 k := fun k hk h => by
        have hz06 := hb06.size
        rcases h with h | h | h
        · omega
        · omega
        · have := hFl6 k h
          have := hF6' k h
          omega
      have hF9g : ∀ k, (k < w.heap.size ∨ (w6.heap.size ≤ k ∧ k < w8.heap.size)) → ¬ Own g m F9 k := fun k hk h => by
        rcases h with h | h | h
        · exact hFg k hk (.inl h)
        · exact hFg k hk (.inr (.inl h))
        · rcases hF9 k h with h | h
          · exact hFg k hk (.inr (.inr h))
          · have hz06 := hb06.size; omega
      have hRsC := ((HRs8.out.keeps hk9 hFg).keeps hkA hF9g).mono hbB
      obtain ⟨aB, cB, rfl, hcB⟩ := hRsB.slice
      have hRsD := Rs.take (k := rsB.length) hRsC (by simp; omega)
      rw [← l3] at hRsD
      have hsame := fun W (hB : Below wB.heap.size wB W) => sameAll_yes W _ _ _ _ rsB (hRsB.mono hB) (hRsD.mono hB) (by omega)
      have htl := fun W (hB : Below wB.heap.size wB W) => tail_yes (hRB.mono hB)
      have hb0B : Below w.heap.size w wB := by
        have k9 := hk9.below (B := w.heap.size) (fun k hk => by
          rcases hk with h | h | h
          · omega
          · omega
          · exact hF6' k h) hb08.size
        have hb09 := hb08.trans k9
        have kA := hkA.below (B := w.heap.size) (fun k hk => by
          rcases hk with h | h | h
          · omega
          · omega
          · rcases hF9 k h with h | h
            · exact hF6' k h
            · have := hb08.size; omega) hb09.size
        have hb0A := hb09.trans kA
        exact hb0A.trans (hbB.mono hb0A.size)
      have hlen8 : ([] ++ A ++ M).length = A.length + M.length := by simp
      obtain ⟨LB, hLB⟩ : ∃ LB, rsB.length = LB := ⟨_, rfl⟩
      obtain ⟨LS, hLS⟩ : ∃ LS, A.length + M.length = LS := ⟨_, rfl⟩
      rw [hLB] at hsame htl l1 l2 hcB ⊢
      rw [hLS] at l2 ⊢
      have hcp : LS ≤ cp8 := by rw [← hLS, ← hlen8]; exact hcp8
      have hAL : 0 ≤ LB := by have := HlA.out; omega
      have hLB40 : LB ≤ 40 := by omega
      have HLB := hide hLB
      have HLS := hide hLS
      clear hRsC hRsD hRsB hRB hDA hD9 hD8 hD6 hRD6 hopen2 hscB hLB hLS hlen8 l3
      go_wp2_with fail
      refine (hsame _ (Below.refl _ _)).mono ?_
      rintro e wC ⟨rfl, hbC⟩
      have htl2 := htl wC hbC
      clear hsame htl
      go_wp2_with fail
      refine htl2.mono ?_
      rintro e wD ⟨rfl, nD, rfl⟩
      go_wp2_with fail
      go_ret
      exact ⟨by simp, below_drewN (hb0B.trans (hbC.mono hb0B.size)) _⟩
    · have HG : Rs w (fun k => k < w.heap.size) (.slice none 0 0) M := by rw [hM']; exact Rs.nil _ _
      have hGn : Hid (∀ n c, Value.slice none 0 0 = .slice none n c → c = 0) := hide (fun n c e => by injection e with _ _ e; exact e.symm)
      have hlM : M.length = 0 := by rw [hM']; rfl
      clear hM'
      have HFF := hide (HF.mono hb06)
      have HGG := hide (HG.mono hb06)
      have HlM := hide hlM
      have HlA := hide hlA
      clear hlM hlA HF HG
      go_wp2_with (at_builtin; first
        | (refine wpList_append_rs _ rfl (.tmp 55) (.tmp 56) rfl (.slice (some ⟨w6.heap.size, 0, none⟩) 0 0) [] [] rfl (World.ownsRow_lit w6 #[] 0 (Nat.zero_le _) (by simp) (by simp [cellsR])) rfl _ A (fun k => k < w.heap.size) rfl (HFF.out.mono ((Below.refl _ _).alloc (Nat.le_refl _) _)) hFn.out (by simp; omega) ?_; intro v7 vs7 w7 ho7 hl7 hbs7 hg7 hat7)
        | (refine wpList_append_rs _ rfl (.tmp 57) (.tmp 58) rfl v7 ([] ++ A) ([] ++ vs7) rfl ho7 (by simpa using hl7) _ M (fun k => k < w.heap.size) rfl (HGG.out.keeps (S := fun k => w6.heap.size ≤ k) ((Keeps.alloc _ _).trans ((keeps_grown hg7).mono (fun k hk => by have e : some w6.heap.size = some k := hk; injection e with e; omega))) (fun k hk h => by have := hb06.size; omega)) hGn.out (by simp; omega) ?_; intro v8 vs8 w8 ho8 hl8 hbs8 hg8 hat8; obtain ⟨ao8, cp8, rfl, hcp8, hgo8⟩ := owns_form ho8))
      obtain ⟨hRs8, hk8⟩ := rs_joined (w := w) (w6 := w6) hb06.size ho7 hl7 hbs7 hg7 hat7 ho8 hl8 hbs8 hg8 hat8
      have hz8 : w6.heap.size ≤ w8.heap.size := hk8.size
      have HRs8 := hide hRs8
      clear hRs8 ho7 hl7 hbs7 hg7 hat7 ho8 hl8 hbs8 hg8 hat8
      have hD8 := hD6.keeps hk8 (by omega) (by omega) (fun k hk h => by have := hFl6 k hk; omega)
      have hb08 : Below w.heap.size w w8 := hb06.trans (hk8.below (fun k hk => by have := hb06.size; omega) hb06.size)
      have hcr := crash_yes hD8 (.slice a2 picks.length c2) picks (HP.out.mono hb08) (fun _ b hb e => by
        have h1 := bs_lt2 HP.out (by assumption) b hb
        omega) (by omega) hPl
      have e4 : crashS s3 picks = (crashed s3 picks, 0) := by simp [crashS, t3]
      rw [e4] at hcr
      have e5 : restartS (crashed s3 picks) = ({ crashed s3 picks with on := true }, 0) := by simp [restartS, crashed]
      have E4 := hide e4
      have E5 := hide e5
      clear e4 e5
      go_wp2_with fail
      refine hcr.mono ?_
      rintro e w9 ⟨rfl, p9, F9, hD9, hk9, hF9⟩
      have hrs := restart_yes hD9
      rw [E5.out] at hrs
      clear hcr
      go_wp2_with fail
      refine hrs.mono ?_
      rintro e wA ⟨rfl, pA, FA, hDA, hkA, hFA⟩
      have hopen2 : Calls Try.prog 9 #[.pointer (some ⟨g, 0, none⟩), .int .i64 2, .int .i64 10, .int .i64 40] wA _ := open_on hDA rfl (Nat.zero_le _) 2 10 40 (by omega) (by omega) (by omega) (by omega)
      clear hrs
      go_wp2_with fail
      refine hopen2.mono ?_
      rintro e wB ⟨rsB, rB, vB, FrB, rfl, hscB, hRB, hrB, hFrB, hRsB, hbB⟩
      have hpure := torn_pure (picks := picks) hAok hAlt hMok hMlt (newS_ok 12 (by omega) (by omega)) (by omega) HA1.out (by rw [Hs2.out]; exact hs2ok) (by rw [Hs2.out]; exact HM1.out) hs3ok (by rw [E4.out]; show Scanned (secAt (restartS (crashed s3 picks)).1 2 10) 40 (4 * 10) rsB; rw [E5.out]; exact hscB)
      obtain ⟨l1, l2, l3⟩ := hpure
      have hz9 : w8.heap.size ≤ w9.heap.size := hk9.size
      have hzA : w9.heap.size ≤ wA.heap.size := hkA.size
      have hFg : ∀ k, (k < w.heap.size ∨ (w6.heap.size ≤ k ∧ k < w8.heap.size)) → ¬ Own g m F6 k := fun k hk h => by
        have hz06 := hb06.size
        rcases h with h | h | h
        · omega
        · omega
        · have := hFl6 k h
          have := hF6' k h
          omega
      have hF9g : ∀ k, (k < w.heap.size ∨ (w6.heap.size ≤ k ∧ k < w8.heap.size)) → ¬ Own g m F9 k := fun k hk h => by
        rcases h with h | h | h
        · exact hFg k hk (.inl h)
        · exact hFg k hk (.inr (.inl h))
        · rcases hF9 k h with h | h
          · exact hFg k hk (.inr (.inr h))
          · have hz06 := hb06.size; omega
      have hRsC := ((HRs8.out.keeps hk9 hFg).keeps hkA hF9g).mono hbB
      obtain ⟨aB, cB, rfl, hcB⟩ := hRsB.slice
      have hRsD := Rs.take (k := rsB.length) hRsC (by simp; omega)
      rw [← l3] at hRsD
      have hsame := fun W (hB : Below wB.heap.size wB W) => sameAll_yes W _ _ _ _ rsB (hRsB.mono hB) (hRsD.mono hB) (by omega)
      have htl := fun W (hB : Below wB.heap.size wB W) => tail_yes (hRB.mono hB)
      have hb0B : Below w.heap.size w wB := by
        have k9 := hk9.below (B := w.heap.size) (fun k hk => by
          rcases hk with h | h | h
          · omega
          · omega
          · exact hF6' k h) hb08.size
        have hb09 := hb08.trans k9
        have kA := hkA.below (B := w.heap.size) (fun k hk => by
          rcases hk with h | h | h
          · omega
          · omega
          · rcases hF9 k h with h | h
            · exact hF6' k h
            · have := hb08.size; omega) hb09.size
        have hb0A := hb09.trans kA
        exact hb0A.trans (hbB.mono hb0A.size)
      have hlen8 : ([] ++ A ++ M).length = A.length + M.length := by simp
      obtain ⟨LB, hLB⟩ : ∃ LB, rsB.length = LB := ⟨_, rfl⟩
      obtain ⟨LS, hLS⟩ : ∃ LS, A.length + M.length = LS := ⟨_, rfl⟩
      rw [hLB] at hsame htl l1 l2 hcB ⊢
      rw [hLS] at l2 ⊢
      have hcp : LS ≤ cp8 := by rw [← hLS, ← hlen8]; exact hcp8
      have hAL : 0 ≤ LB := by have := HlA.out; omega
      have hLB40 : LB ≤ 40 := by omega
      have HLB := hide hLB
      have HLS := hide hLS
      clear hRsC hRsD hRsB hRB hDA hD9 hD8 hD6 hRD6 hopen2 hscB hLB hLS hlen8 l3
      go_wp2_with fail
      refine (hsame _ (Below.refl _ _)).mono ?_
      rintro e wC ⟨rfl, hbC⟩
      have htl2 := htl wC hbC
      clear hsame htl
      go_wp2_with fail
      refine htl2.mono ?_
      rintro e wD ⟨rfl, nD, rfl⟩
      go_wp2_with fail
      go_ret
      exact ⟨by simp, below_drewN (hb0B.trans (hbC.mono hb0B.size)) _⟩
set_option maxRecDepth 100000 in
theorem ringTorn_lifted (os : Os) (started : os.Started) (H : Type) (enc : TypeId × Value → H) :
    ReturnsInHanded {} Try.checked os 3 .any (Rows.ringTornSpec.pre6 enc Try.prog Try.f3 Rows.ringTornRow.domain false) (Rows.ringTornSpec.post enc Try.prog Try.f3 false true false false) := by
  refine law_frame (C := Try.checked) rfl Try.own started (by kernel_rfl) Try.func3
    (ChangeSpec.witness6 (enc := enc) (C := Try.checked) false ⟨#[], #[.slice none 0 0, .slice none 0 0, .slice none 0 0], []⟩ 8 (by kernel_rfl) (by kernel_rfl) (by kernel_rfl) (by kernel_rfl))
    Try.laidOut ?_ 4 rfl Try.underlying4 ?_ ?_
  · rw [Try.params3]
    intro t ht
    simp at ht
    rcases ht with rfl | rfl <;> exact ⟨by kernel_rfl, of_decide_eq_true (by kernel_rfl)⟩
  · intro ds hn
    rw [Try.params3] at hn
    match ds, hn with
    | [d1, d2, d3], _ => rfl
  · intro W base args ds p hval0 hA hsz
    have hval : ∀ (j : Nat) t v, Try.f3.params[j]? = some t → args[j]? = some v → Value.okWide Try.prog W .any base t v := hval0
    rw [Try.params3] at hA hsz hval
    obtain ⟨v0, vs0, d0, ds0, p0, q0, hargs, rfl, rfl, h0, r0⟩ := trodAll_cons hA
    obtain ⟨v1, vs1, d1, ds1, p1, q1, rfl, rfl, rfl, h1, r1⟩ := trodAll_cons r0
    obtain ⟨v2, vs2, d2, ds2, p2, q2, rfl, rfl, rfl, h2, r2⟩ := trodAll_cons r1
    obtain ⟨rfl, rfl, rfl⟩ := trodAll_nil r2
    obtain rfl : args = #[v0, v1, v2] := by cases args; simp_all
    obtain ⟨l0, hrs0, hln0, hls0, hnn0⟩ := rs_came (hval 0 22 v0 rfl rfl) h0 hsz (j := 0) rfl rfl
    obtain ⟨l1, hrs1, hln1, hls1, hnn1⟩ := rs_came (hval 1 22 v1 rfl rfl) h1 hsz (j := 1) rfl rfl
    obtain ⟨l2, hbs2, hl2⟩ := Bs.came Try.underlying23 Try.underlying5 (by kernel_rfl) (hval 2 23 v2 rfl rfl) h2
    have hlen2 := came_len hsz (j := 2) (t := 23) rfl rfl Try.underlying23 (by kernel_rfl) hl2
    exact torn_walk v0 v1 v2 l0 l1 l2 W hrs0 hln0 hls0 hnn0 hrs1 hln1 hls1 hnn1 hbs2 (by omega)

theorem ringTorn_holds : Rows.RingTornSaid :=
  OpenClaim.holds_of_wide 3 Try.f3 rfl rfl rfl rfl rfl rfl rfl ⟨rfl, rfl, rfl, rfl, rfl⟩ rfl rfl rfl rfl rfl (by kernel_rfl) Try.func3 (by kernel_rfl)
    (of_decide_eq_true (by kernel_rfl)) (by unfold Func.isWrapper; first | (rw [if_pos (by decide +kernel)]; kernel_rfl) | (rw [if_neg (by decide +kernel)]; exact ⟨rfl, rfl⟩))
    (fun os started H enc _ => ringTorn_lifted os started H enc)
#print axioms ringTorn_holds

end Go.Proofs.Ytjhbljkoapbkfaa
