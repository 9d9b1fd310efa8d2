/- Contracts: bits.Runs and the function that it hands back, as an iterator. -/
import Derived.Test.YtkdajahcadjpfaaC9
set_option linter.unusedSimpArgs false
set_option linter.unusedVariables false
namespace Go.Proofs.Ytkdajahcadjpfaa
open Go.RowKit Go.Attic Go.Shelf
attribute [local go_sem] Oper.semAt_some

def endN (l : List Nat) (n : Int) : Nat := (max 0 (min n (8 * l.length))).toNat
theorem endN_le (l : List Nat) (n : Int) : endN l n ≤ 8 * l.length := by unfold endN; omega

/-- A function value that tells the runs of the first N bits of l. -/
def RunsIt (w : World) (l : List Nat) (N : Nat) (g : Value) : Prop :=
  ∃ rb eb v, g = .func (.func 47) #[] #[.pointer (some ⟨rb, 0, none⟩), .pointer (some ⟨eb, 0, none⟩)] ∧ Boxed w rb 22 v ∧ Boxed w eb 3 (.int .i64 (N : Int)) ∧ Bs w v l ∧ (∀ b, v.ownBlock = some b → b < w.heap.size)

theorem owns_blk {w : World} {base : Nat} {e : TypeId} {size : Nat} {v : Value} {n : Nat} {xs : List Value} (h : w.ownsRow base e size v n xs) : ∀ b, v.ownBlock = some b → b < w.heap.size := fun b hb => (h.lt b hb).2

set_option maxRecDepth 100000 in
set_option maxHeartbeats 400000 in
theorem runs_any (v : Value) (l : List Nat) (n : Int) (w : World) (h : Bs w v l) (hlen : l.length ≤ 140737488355328) :
    Calls Try.prog 31 #[v, .int .i64 n] w fun e w' => ∃ g, e = .returned g ∧ RunsIt w' (l.take ((endN l n + 7) / 8)) (endN l n) g ∧ Below w.heap.size w w' := by
  have hx := h.lt
  have hN := endN_le l n
  obtain ⟨m, hm⟩ : ∃ m : Int, (if 8 * (l.length : Int) < n then 8 * (l.length : Int) else n) = m := ⟨_, rfl⟩
  have hNe : (if 0 < m then m else 0) = ((endN l n : Nat) : Int) := by
    unfold endN; rw [← hm]; split <;> split <;> omega
  generalize endN l n = N at *
  have h' := h
  obtain ⟨ao, cap, rfl, hl, hnn, _, hc⟩ := h
  clear hc
  have hq : (N + 7) / 8 ≤ l.length := by omega
  obtain ⟨q, hqe⟩ : ∃ q, (N + 7) / 8 = q := ⟨_, rfl⟩
  have hq2 : ((N : Int) + 7) / 8 = (q : Int) := by omega
  rw [hqe] at hq ⊢
  have Hq2 := hide hq2
  clear hq2 hqe
  go_enter Try.func31, Try.ntmps31
  go_wp2_with (first
    | (go_at_call 42; refine (bitsOf_any _ l _ h' hlen).mono ?_; rintro e w' ⟨rfl, rfl⟩)
    | (go_at_call 41; refine (bytesOf_any _ _ (by omega) (by omega)).mono ?_; rintro e w' ⟨rfl, rfl⟩; rw [Hq2.out]))
  have hbt := (h'.alloc (.cells #[.int .i64 (N : Int)] 3)).take (h := q) hq
  have hbl : (l.take q).length = q := by simp; omega
  have Hbl := hide hbl
  have hbe := Boxed.new w 3 (.int .i64 (N : Int))
  refine (own_any _ _ _ hbt (by rw [hbl]; omega)).mono ?_
  rintro e w1 ⟨v1, rfl, hown, hb⟩
  have hbs := Bs.of_owns hown (fun x hx' => hx x (List.mem_of_mem_take hx'))
  have hbe1 : Boxed w1 w.heap.size 3 (.int .i64 (N : Int)) := (hb.block _ (by simp)).trans hbe
  have hz := hb.size
  simp at hz
  have Hb : Hid (Below w.heap.size w w1) := ((Below.refl _ _).alloc (Nat.le_refl _) _).trans (hb.mono (by simp))
  obtain ⟨ao1, cap1, rfl, hcap1, _⟩ := owns_form hown
  have Hown := hide (owns_blk hown)
  clear hown hbt
  rw [hbl] at hbs hcap1 Hown ⊢
  clear hbl
  go_wp2_with fail
  go_ret
  refine ⟨_, rfl, ⟨w1.heap.size, w.heap.size, .slice ao1 q cap1, rfl, Boxed.new _ _ _, hbe1.alloc _, hbs.alloc _, ?_⟩, Hb.out.alloc Hb.out.size _⟩
  intro b hb'
  have := Hown.out b hb'
  simp; omega

/-- What Runs keeps: its own blocks, and the row that it reads. -/
theorem fwd_le {l : List Nat} {n : Nat} {p : List Nat} {i : Nat} (h : p ++ [i] <+: onesN l n) : (∀ j ∈ p ++ [i], j < n) := by
  intro j hj
  exact onesN_lt (h.subset hj)

set_option maxRecDepth 100000 in
set_option maxHeartbeats 1000000 in
theorem runs1_any (K : Nat → Prop) (l : List Nat) (N : Nat) (g : Value) (w0 : World) (rb eb : Nat) (v : Value) (hrb : Boxed w0 rb 22 v) (heb : Boxed w0 eb 3 (.int .i64 (N : Int))) (hv : Bs w0 v l) (hlen : l.length ≤ 140737488355328) (hN : N ≤ 8 * l.length)
    (kv : ∀ b, v.ownBlock = some b → K b) (hK0 : ∀ k, K k → k < w0.heap.size) :
    SeqP Try.prog 47 #[.pointer (some ⟨rb, 0, none⟩), .pointer (some ⟨eb, 0, none⟩)] (fun r : Nat × Nat => #[Value.int .i64 (r.1 : Int), Value.int .i64 (r.2 : Int)]) K 7 (fun xs => xs = runsN l N) (fun pre => pre <+: runsN l N) w0 := by
  intro lp J Jx W hW hJ hJx hY h0
  have hz0 := hW.size
  have hrb1 : Boxed W rb 22 v := (hW.block rb hrb.lt).trans hrb
  have heb1 : Boxed W eb 3 (.int .i64 (N : Int)) := (hW.block eb heb.lt).trans heb
  have hv1 := hv.mono hW
  have hcr := hrb1.cell
  have hce := heb1.cell
  have hrl := hrb1.lt
  have hel := heb1.lt
  obtain ⟨ao, cap, rfl⟩ : ∃ ao cap, v = .slice ao l.length cap := by obtain ⟨ao, cap, e, _⟩ := hv; exact ⟨ao, cap, e⟩
  have hrb3 := ((hrb1.alloc (.cells #[.func (.yield lp) #[] #[]] 56)).alloc (.cells #[.int .i64 0] 3)).alloc (.cells #[.int .i64 0] 3)
  have heb3 := ((heb1.alloc (.cells #[.func (.yield lp) #[] #[]] 56)).alloc (.cells #[.int .i64 0] 3)).alloc (.cells #[.int .i64 0] 3)
  have hcr3 := hrb3.cell
  have hce3 := heb3.cell
  clear hcr hce
  refine (callsIn_wide (n := 3)).1 ?_
  refine callsIn_of_wp_marks Try.func47 rfl trivial ?_ rfl
  simp only [Try.ntmps47, List.size_toArray, List.length_cons, List.length_nil, Nat.reduceAdd, Nat.reduceSub, Array.replicate_succ, Array.replicate_zero, List.push_toArray, List.append_toArray, List.nil_append, List.cons_append]
  gi_wp2_with (refine ⟨trivial, ?_⟩; gi_at_call 48; refine (callsIn_wide.2 (ones_any _ N _ ⟨_, _, _, rfl⟩)).mono ?_; rintro e w' ⟨rfl, rfl⟩)
  clear hcr3 hce3 hrb3 heb3
  have bY := ((((Boxed.new W 56 (.func (.yield lp) #[] #[])).alloc (.cells #[.int .i64 0] 3)).alloc (.cells #[.int .i64 0] 3)).alloc (.cells #[.slice ao l.length cap] 22)).alloc (.cells #[.int .i64 (N : Int)] 3)
  have bA := (((Boxed.new (W.alloc (.cells #[.func (.yield lp) #[] #[]] 56)) 3 (.int .i64 0)).alloc (.cells #[.int .i64 0] 3)).alloc (.cells #[.slice ao l.length cap] 22)).alloc (.cells #[.int .i64 (N : Int)] 3)
  have bM := ((Boxed.new ((W.alloc (.cells #[.func (.yield lp) #[] #[]] 56)).alloc (.cells #[.int .i64 0] 3)) 3 (.int .i64 0)).alloc (.cells #[.slice ao l.length cap] 22)).alloc (.cells #[.int .i64 (N : Int)] 3)
  have bR := (Boxed.new (((W.alloc (.cells #[.func (.yield lp) #[] #[]] 56)).alloc (.cells #[.int .i64 0] 3)).alloc (.cells #[.int .i64 0] 3)) 22 (.slice ao l.length cap)).alloc (.cells #[.int .i64 (N : Int)] 3)
  have bN := Boxed.new ((((W.alloc (.cells #[.func (.yield lp) #[] #[]] 56)).alloc (.cells #[.int .i64 0] 3)).alloc (.cells #[.int .i64 0] 3)).alloc (.cells #[.slice ao l.length cap] 22)) 3 (.int .i64 (N : Int))
  have hvV := ((((hv1.alloc (.cells #[.func (.yield lp) #[] #[]] 56)).alloc (.cells #[.int .i64 0] 3)).alloc (.cells #[.int .i64 0] 3)).alloc (.cells #[.slice ao l.length cap] 22)).alloc (.cells #[.int .i64 (N : Int)] 3)
  have hJ0 := hJ.alloc (hJ.alloc (hJ.alloc (hJ.alloc (hJ.alloc h0 (.cells #[.func (.yield lp) #[] #[]] 56)) (.cells #[.int .i64 0] 3)) (.cells #[.int .i64 0] 3)) (.cells #[.slice ao l.length cap] 22)) (.cells #[.int .i64 (N : Int)] 3)
  simp only [World.size_alloc] at bA bM bR bN
  obtain ⟨V, hV⟩ : ∃ V, ((((W.alloc (.cells #[.func (.yield lp) #[] #[]] 56)).alloc (.cells #[.int .i64 0] 3)).alloc (.cells #[.int .i64 0] 3)).alloc (.cells #[.slice ao l.length cap] 22)).alloc (.cells #[.int .i64 (N : Int)] 3) = V := ⟨_, rfl⟩
  have hsz : V.heap.size = W.heap.size + 5 := by rw [← hV]; simp
  rw [hV] at bY bA bM bR bN hvV hJ0 ⊢
  clear hV h0
  have hseq := ones1_any (fun k => (k = W.heap.size + 1 + 1 + 1 ∨ k = W.heap.size + 1 + 1 + 1 + 1) ∨ K k) l N _ _ _ V bN bR hvV hlen hN (.inl (.inr rfl)) (.inl (.inl rfl)) (fun b hb => .inr (kv b hb))
  refine range_law (n := 3) (gf := 54) (lb := #[.pointer (some ⟨W.heap.size + 1 + 1 + 1 + 1, 0, none⟩), .pointer (some ⟨W.heap.size + 1 + 1 + 1, 0, none⟩)]) rfl (enters_of Try.func54 (by kernel_rfl) rfl) hseq (Below.refl _ _)
    (fun k hk => by rcases hk with (h | h) | h; omega; omega; have := hK0 k h; omega) (fun _ => rfl)
    (fun pre U => ((Boxed U W.heap.size 56 (.func (.yield lp) #[] #[]) ∧ Boxed U (W.heap.size + 1) 3 (.int .i64 ((stR pre).2.1 : Int))) ∧ Boxed U (W.heap.size + 1 + 1) 3 (.int .i64 ((stR pre).2.2 : Int))) ∧ J (stR pre).1 U)
    (fun code _ U => code = .ret ∧ ∃ d, d <+: runsN l N ∧ Jx d U)
    (Stands.and (Stands.and (Stands.and (stands_boxed _ _ _ (.inl (by omega))) (stands_boxed _ _ _ (.inl (by omega)))) (stands_boxed _ _ _ (.inl (by omega)))) (fun s A B row hs hg hm => (hJ.mono (by omega) (by omega)) _ A B row hs hg hm))
    (fun code s A B row hs hg hm => by obtain ⟨h1, d, h2, h3⟩ := hs; exact ⟨h1, d, h2, (hJx.mono (by omega) (by omega)) _ A B row h3 hg hm⟩)
    ⟨⟨⟨bY, bA⟩, bM⟩, hJ0⟩
    (fun x => { tmps := #[.func (.yield lp) #[] #[], .pointer (some ⟨rb, 0, none⟩), .pointer (some ⟨eb, 0, none⟩), .pointer (some ⟨W.heap.size, 0, none⟩), .pointer (some ⟨W.heap.size + 1, 0, none⟩), .pointer (some ⟨W.heap.size + 1 + 1, 0, none⟩), .int .i64 (x : Int), .slice ao l.length cap, .int .i64 (N : Int), .func (.func 54) #[] #[.pointer (some ⟨W.heap.size + 1 + 1 + 1 + 1, 0, none⟩), .pointer (some ⟨W.heap.size + 1 + 1 + 1, 0, none⟩)], .int .i64 (x : Int), undef, undef, undef, undef, undef, undef, undef, undef, undef, undef, undef, undef, undef, undef, undef, undef, undef, undef, undef, undef, undef, undef, undef, undef, undef, undef, undef], defers := [] })
    ?assign ?body ?done ?stop
  case assign =>
    intro l' x U T hT
    gi_wp2
    exact hT
  case body =>
    rintro pre i U hSp ⟨⟨⟨bY1, bA1⟩, bM1⟩, hJ1⟩ hsU ⟨r, hr⟩
    have hlt := fwd_le hSp
    have hi : i < N := hlt i (by simp)
    have hle := stR_le pre (fun j hj => hlt j (by simp [hj]))
    have hnew := stR_snoc pre i
    have htp := told_pre hSp
    rw [hnew] at htp
    generalize hst : stR pre = st at *
    obtain ⟨d, a, m⟩ := st
    have Hnew := hide hnew
    have Htp := hide htp
    simp only at hle hJ1 bM1 bA1
    have cA := bA1.cell
    have cM := bM1.cell
    have cY := bY1.cell
    have fA := bA1.frozen
    have fM := bM1.frozen
    clear hnew htp hst hSp hlt hseq hv hv1 hrb hrb1 heb heb1 hvV bN bR bM bA bY hJ0
    by_cases hm : 0 < m
    · by_cases he : i = a + m
      · subst he
        dsimp only
        gi_wp2
        have e : stR (pre ++ [a + m]) = (d, a, m + 1) := by rw [Hnew.out]; simp [stepR, hm]
        refine ⟨Still.set (.inl (by omega)) _, KeepS.set (by rintro ((h | h) | h); omega; omega; have := hK0 _ h; omega) _, ?_⟩
        dsimp only
        rw [e]
        exact ⟨⟨⟨bY1.other (by omega) _, bA1.other (by omega) _⟩, by have := bM1.set (.int .i64 ((m : Int) + 1)); exact this⟩, hJ.set hJ1 (by omega) (by omega) _⟩
      · have e1 : stepR (d, a, m) i = (d ++ [(a, m)], i, 1) := by simp [stepR, hm, he]
        have e : stR (pre ++ [i]) = (d ++ [(a, m)], i, 1) := Hnew.out.trans e1
        have htp : d ++ [(a, m)] <+: runsN l N := by have := Htp.out; rw [e1] at this; exact this
        obtain ⟨fn, tmps, assign, body, hy, hR⟩ := hY d (a, m) U htp hJ1 (by omega)
        dsimp only at hy
        have He := hide e
        have Htp2 := hide htp
        have hne : ((i : Int) == (a : Int) + m) = false := by simp; omega
        clear e1 e htp Htp Hnew he hY
        dsimp only
        gi_wp2
        refine (roundIn_in hR).mono ?_
        rintro e U3 ⟨hst3, ⟨rfl, hJ3, hk3⟩ | ⟨rfl, hJx3⟩⟩
        · have bA3 := hst3.boxed bA1 (by omega) (by omega)
          have bM3 := hst3.boxed bM1 (by omega) (by omega)
          have bY3 := hst3.boxed bY1 (by omega) (by omega)
          have cA3 := bA3.cell
          have cM3 := bM3.cell
          have fA3 := bA3.frozen
          have fM3 := bM3.frozen
          gi_wp2
          refine ⟨(hst3.mono (by omega) (by omega)).trans ((Still.set (.inl (by omega)) _).trans (Still.set (.inl (by omega)) _)), ?_, ?_⟩
          · have h1 : KeepS (fun k => (k = W.heap.size + 1 + 1 + 1 ∨ k = W.heap.size + 1 + 1 + 1 + 1) ∨ K k) U U3 :=
              ⟨hk3.size, fun k hk => by
                rcases hk with (h | h) | h
                · exact hst3.same k (by omega) (by omega)
                · exact hst3.same k (by omega) (by omega)
                · exact hk3.same k h⟩
            exact h1.trans ((KeepS.set (by rintro ((h | h) | h); omega; omega; have := hK0 _ h; omega) _).trans (KeepS.set (by rintro ((h | h) | h); omega; omega; have := hK0 _ h; omega) _))
          · dsimp only
            rw [He.out]
            exact ⟨⟨⟨(bY3.other (by omega) _).other (by omega) _, (bA3.set _).other (by omega) _⟩, (bM3.other (by omega) _).set _⟩, hJ.set (hJ.set hJ3 (by omega) (by omega) _) (by omega) (by omega) _⟩
        · gi_wp2
          exact ⟨hst3.mono (by omega) (by omega), rfl, _, Htp2.out, hJx3⟩
    · obtain rfl : m = 0 := by omega
      have e : stR (pre ++ [i]) = (d, i, 1) := by rw [Hnew.out]; simp [stepR]
      have He := hide e
      clear e Hnew Htp hY
      dsimp only
      gi_wp2
      all_goals
        refine ⟨fun _ _ => trivial, ?_⟩
        gi_wp2
        refine ⟨(Still.set (.inl (by omega)) _).trans (Still.set (.inl (by omega)) _), (KeepS.set (by rintro ((h | h) | h); omega; omega; have := hK0 _ h; omega) _).trans (KeepS.set (by rintro ((h | h) | h); omega; omega; have := hK0 _ h; omega) _), ?_⟩
        dsimp only
        rw [He.out]
        exact ⟨⟨⟨(bY1.other (by omega) _).other (by omega) _, (bA1.set _).other (by omega) _⟩, (bM1.other (by omega) _).set _⟩, hJ.set (hJ.set hJ1 (by omega) (by omega) _) (by omega) (by omega) _⟩
  case done =>
    rintro xs U rfl ⟨⟨⟨bY1, bA1⟩, bM1⟩, hJ1⟩ hsU hK
    have hle := stR_le (n := N) (onesN l N) (fun j hj => onesN_lt hj)
    have hfin : runsN l N = finR (stR (onesN l N)) := rfl
    generalize stR (onesN l N) = st at *
    obtain ⟨d, a, m⟩ := st
    simp only at hle hJ1 bM1 bA1
    have cA := bA1.cell
    have cM := bM1.cell
    have cY := bY1.cell
    clear hseq hv hv1 hrb hrb1 heb heb1 hvV bN bR bM bA bY hJ0
    by_cases hm : 0 < m
    · have e : runsN l N = d ++ [(a, m)] := by rw [hfin]; simp [finR, hm]
      obtain ⟨fn, tmps, assign, body, hy, hR⟩ := hY d (a, m) U (by rw [e]; exact List.prefix_refl _) hJ1 (by omega)
      dsimp only at hy
      have He := hide e
      clear e hfin hY
      gi_wp2
      refine (roundIn_any hR).mono ?_
      rintro e U3 ⟨hst3, h3⟩
      have hK3 : U3.heap[V.heap.size]? = some (.deferred (some [])) := (hst3.same _ (by omega) (by omega)).trans hK
      rw [hsz] at hK3
      rcases h3 with ⟨rfl, hJ3, hk3⟩ | ⟨rfl, hJx3⟩
      · gi_wp2
        refine ⟨by simp, .inl ⟨_, _, rfl, run_takeDeferred hK3, ?_⟩⟩
        exact ⟨_, results_none rfl _ _ _, ⟨_, rfl⟩, .inl ⟨_, rfl, by rw [He.out]; exact hJ.put hJ3 (by omega) (by omega) _⟩⟩
      · gi_wp2
        refine ⟨by simp, .inl ⟨_, _, rfl, run_takeDeferred hK3, ?_⟩⟩
        exact ⟨_, results_none rfl _ _ _, ⟨_, rfl⟩, .inr ⟨_, by rw [He.out]; exact List.prefix_refl _, hJx.put hJx3 (by omega) (by omega) _⟩⟩
    · have e : runsN l N = d := by rw [hfin]; simp [finR, hm]
      have He := hide e
      have hm0 : m = 0 := by omega
      subst hm0
      clear e hfin hY
      gi_wp2
      refine ⟨by simp, .inl ⟨_, _, rfl, run_takeDeferred hK, ?_⟩⟩
      exact ⟨_, results_none rfl _ _ _, ⟨_, rfl⟩, .inl ⟨_, rfl, by rw [He.out]; exact hJ.put hJ1 (by omega) (by omega) _⟩⟩
  case stop =>
    rintro code pre U hSp ⟨rfl, d, hd, hJxd⟩ hsU hK
    clear hseq hv hv1 hrb hrb1 heb heb1 hvV bN bR bM bA bY hJ0 hY
    gi_wp2
    refine ⟨by simp, .inl ⟨_, _, rfl, run_takeDeferred hK, ?_⟩⟩
    exact ⟨_, results_none rfl _ _ _, ⟨_, rfl⟩, .inr ⟨d, hd, hJx.put hJxd (by omega) (by omega) _⟩⟩

end Go.Proofs.Ytkdajahcadjpfaa
