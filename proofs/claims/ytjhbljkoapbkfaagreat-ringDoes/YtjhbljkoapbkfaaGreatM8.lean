/- Contracts: Arm, Write. Contract: Write. Contracts: bits.Mul64, bits.Mul, slices.Repeat, Flush. -/
import Derived.Test.YtjhbljkoapbkfaaGreatM7
set_option linter.unusedSimpArgs false
set_option linter.unusedVariables false

namespace Go.Proofs.YtjhbljkoapbkfaaGreat
open Go.RowKit Go.Attic

theorem keeps_set (w : World) (g o : Nat) (v : Value) : Keeps (fun k => k = g) w (w.setCell ⟨g, o, none⟩ v) := Keeps.setCell (S := fun k => k = g) w rfl v

theorem owns_slice {w : World} {base : Nat} {e : TypeId} {size : Nat} {v : Value} {n : Nat} {xs : List Value} (h : w.ownsRow base e size v n xs) : ∃ ao cap, v = .slice ao n cap := by
  rcases h.2 with ⟨rfl, rfl⟩ | ⟨g, cap, cur, rfl, _⟩
  · exact ⟨_, _, rfl⟩
  · exact ⟨_, _, rfl⟩

set_option maxRecDepth 100000 in
set_option maxHeartbeats 400000 in
theorem arm_yes {w : World} {g m : Nat} {p : Option Nat} {F : Nat → Prop} {n : Nat} {s : St} (h : Dk w g m p F n s) (i : Int) (vp : Value) (picks : List Nat) (hv : Bs w vp picks) (hvg : ∀ b, vp.ownBlock = some b → b ≠ g) (hpk : picks.length ≤ 140737488355328) (hi : i ≤ 9223372036854775807) :
    Calls Tryz.prog 22 #[.pointer (some ⟨g, 0, none⟩), .int .i64 i, vp] w fun e w' => e = .returned (.int .i64 (armS s i picks).2) ∧ Turn w g m F n (armS s i picks).1 w' := by
  have hp := powered_yes h
  cases hon : s.on with
  | false =>
    have e : armS s i picks = (s, 5) := by simp [armS, hon]
    rw [e]; clear e
    rw [hon] at hp
    go_enter Tryz.func22, Tryz.ntmps22
    go_wp2_with fail
    refine hp.mono ?_
    rintro e w' ⟨rfl, rfl⟩
    go_wp2
    go_ret
    exact ⟨rfl, p, F, h, Keeps.refl _ _, fun _ h => .inl h⟩
  | true =>
    rw [hon] at hp
    by_cases h0 : i < 0
    · have e : armS s i picks = (s, 1) := by simp [armS, hon, h0]
      rw [e]; clear e
      go_enter Tryz.func22, Tryz.ntmps22
      go_wp2_with fail
      refine hp.mono ?_
      rintro e w' ⟨rfl, rfl⟩
      go_wp2
      go_ret
      exact ⟨rfl, p, F, h, Keeps.refl _ _, fun _ h => .inl h⟩
    · obtain ⟨k, rfl⟩ := Int.eq_ofNat_of_zero_le (show 0 ≤ i by omega)
      have c2 := h.c2
      obtain ⟨v3, c3, _⟩ := h.c3
      have f2 := h.f2
      have f3 := h.f3
      have h1 : Dk ((w.setCell ⟨g, 2, none⟩ (.int .i64 0)).setCell ⟨g, 3, none⟩ (.slice none 0 0)) g m p F n { s with left := 0, picks := [] } := (h.store2 (l := 0) (by omega)).store3 (u := .slice none 0 0) (l := []) (Bs.nil _) (by simp) (by simp [Value.ownBlock])
      have k1 : Keeps (fun k => k = g) w ((w.setCell ⟨g, 2, none⟩ (.int .i64 0)).setCell ⟨g, 3, none⟩ (.slice none 0 0)) := (keeps_set _ _ _ _).trans (keeps_set _ _ _ _)
      have hv1 := k1.bs hv hvg
      by_cases hk : k = 0
      · subst hk
        have e : armS s ((0 : Nat) : Int) picks = ({ s with left := 0, picks := [] }, 0) := by simp [armS, hon]
        rw [e]; clear e
        have H1 := hide h1
        have K1 := hide k1
        clear h1 k1 hv1
        go_enter Tryz.func22, Tryz.ntmps22
        go_wp2_with fail
        refine hp.mono ?_
        rintro e w' ⟨rfl, rfl⟩
        go_wp2
        go_ret
        exact ⟨rfl, p, F, H1.out, K1.out.mono (fun _ h => .inl h), fun _ h => .inl h⟩
      · have e : armS s ((k : Nat) : Int) picks = ({ s with left := k, picks := picks }, 0) := by simp [armS, hon, hk]
        rw [e]; clear e
        have hk1 : 0 < k := by omega
        have H1 := hide h1
        have K1 := hide k1
        have Hv1 := hide hv1
        clear h1 k1 hv1 hk
        go_enter Tryz.func22, Tryz.ntmps22
        go_wp2_with fail
        refine hp.mono ?_
        rintro e w' ⟨rfl, rfl⟩
        go_wp2_with fail
        refine (own_any _ _ _ Hv1.out hpk).mono ?_
        rintro e w1 ⟨v1, rfl, ho1, hb1⟩
        have hs1 := hb1.size
        have hlt1 := ho1.lt
        have h2 := H1.out.mono hb1
        have hgl := h.gl
        have hml := h.ml
        have hsz : ((w.setCell ⟨g, 2, none⟩ (.int .i64 0)).setCell ⟨g, 3, none⟩ (.slice none 0 0)).heap.size = w.heap.size := by simp
        rw [hsz] at hlt1 hs1
        have h3 := h2.widen (F' := fun k => F k ∨ v1.ownBlock = some k) (fun _ h => .inl h) (by rintro (e | e); exact h.Fg e; have := hlt1 _ e; omega) (by rintro (e | e); exact h.Fm e; have := hlt1 _ e; omega)
          (by rintro k (e | e); exact h2.Fl k e; exact (hlt1 _ e).2)
        have h4 := (h3.store2 (l := k) (by omega)).store3 (u := v1) (l := picks) ((Keeps.setCell (S := fun k => k = g) w1 rfl _).bs (Bs.of_owns ho1 hv.lt) (fun b hb e => by have := hlt1 _ hb; have e' : b = g := e; omega)) hpk
          (fun b hb => ⟨.inr hb, fun e => by
            obtain ⟨pv, pvs, _, hW⟩ := h.c1
            have := h.Fl b (hW.pF b e); have := hlt1 _ hb; omega⟩)
        have K4 := hide ((((K1.out.trans (Keeps.of_below hb1)).trans (keeps_set w1 g 2 (.int .i64 ((k : Nat) : Int)))).trans (keeps_set _ g 3 v1)).mono (T := Own g m F) (fun _ h => .inl h))
        have c2' := h3.c2
        obtain ⟨v3', c3', _⟩ := h3.c3
        have f2' := h3.f2
        have f3' := h3.f3
        have H4 := hide h4
        obtain ⟨ao1, cap1, rfl⟩ := owns_slice ho1
        clear h4 h3 h2 ho1 hb1
        go_wp2
        go_ret
        exact ⟨rfl, p, _, H4.out, K4.out, fun k hk => hk.imp id (fun h => (hlt1 _ h).1)⟩

/-- One more write is pending. -/
theorem Dk.pushed {w w2 : World} {g m : Nat} {p : Option Nat} {F : Nat → Prop} {n : Nat} {s : St} (h : Dk w g m p F n s) {v : Value} {vs : List Value} (c1 : w.cell? ⟨g, 1, none⟩ = some v) (hW : Ws 131 w p F v s.pend vs)
    (k2 : Keeps (fun k => p = some k) w w2) {v' vb : Value} {i : Nat} {b : List Nat} (ho : w2.ownsRow 0 131 2 v' (s.pend.length + 1) (cellsW s.pend vs ++ [.int .i64 (i : Int), vb])) (hkin : ∀ k, v'.ownBlock = some k → (p = some k ∨ w.heap.size ≤ k) ∧ vb.ownBlock ≠ some k ∧ k < w2.heap.size)
    (hb : Bs w2 vb b) (hbk : ∀ k, vb.ownBlock = some k → w.heap.size ≤ k ∧ k < w2.heap.size) (hi : i < n) (hl : b.length = 256) :
    Dk (w2.setCell ⟨g, 1, none⟩ v') g m v'.ownBlock (fun k => F k ∨ vb.ownBlock = some k ∨ v'.ownBlock = some k) n { s with pend := s.pend ++ [(i, b)] } := by
  obtain ⟨cap, a1, a2⟩ := h.c0
  obtain ⟨v3, d1, d2, d3⟩ := h.c3
  have hgl := h.gl
  have hml := h.ml
  have hpg : ¬ (fun k => p = some k) g := fun e => h.Fg (hW.pF g e)
  have hpm : ¬ (fun k => p = some k) m := fun e => h.Fm (hW.pF m e)
  have hk : Keeps (fun k => k = g) w2 (w2.setCell ⟨g, 1, none⟩ v') := Keeps.setCell (S := fun k => k = g) w2 rfl _
  have hm : ¬ (fun k => k = g) m := fun e => h.ne (by have e' : m = g := e; exact e'.symm)
  have hS : ∀ k, F k → ¬ (fun k => k = g) k := fun k hk e => h.Fg (by have e' : k = g := e; exact e' ▸ hk)
  have hbS : ∀ k, vb.ownBlock = some k → ¬ (fun k => k = g) k := fun k hk' e => by have e' : k = g := e; have := hbk k hk'; omega
  have hvS : ∀ k, v'.ownBlock = some k → ¬ (fun k => k = g) k := fun k hk' e => by
    have e' : k = g := e
    rcases (hkin k hk').1 with h1 | h1
    · exact hpg (by rw [← e']; exact h1)
    · omega
  have hsz := k2.size
  refine ⟨⟨cap, cell_set_other (k2.cell a1 hpg) (by omega), hk.owns (k2.owns a2 (fun b hb => by cases hb; exact hpm)) (fun b hb => by cases hb; exact hm)⟩,
    ⟨v', vs ++ [vb], cell_set_same (k2.cell c1 hpg), ⟨?_, rfl, by simp [hW.len], fun b hb => .inr (.inr hb), ?_⟩⟩,
    cell_set_other (k2.cell h.c2 hpg) (by omega),
    ⟨v3, cell_set_other (k2.cell d1 hpg) (by omega), hk.bs (k2.bs d2 (fun b hb => (d3 b hb).2)) (fun b hb => hS b (d3 b hb).1), fun b hb => ⟨.inl (d3 b hb).1, fun e => ?_⟩⟩,
    cell_set_other (k2.cell h.c4 hpg) (by omega), cell_set_other (k2.cell h.c5 hpg) (by omega), ?_, ?_, ?_, ?_, ?_, ?_,
    h.ne, ?_, ?_, ?_, ⟨h.ok.len, h.ok.n1, h.ok.n2, h.ok.lt, ?_, h.ok.left, h.ok.picks⟩⟩
  · have e : cellsW (s.pend ++ [(i, b)]) (vs ++ [vb]) = cellsW s.pend vs ++ [.int .i64 (i : Int), vb] := by
      simp [cellsW, List.zip_append hW.len.symm]
    dsimp only
    rw [e]
    simpa using hk.owns ho hvS
  · intro j hj hv
    simp at hj hv
    by_cases hjl : j < s.pend.length
    · have h1 : j < vs.length := by have := hW.len; omega
      obtain ⟨q1, q2⟩ := hW.bs j hjl h1
      simp only [List.getElem_append_left hjl, List.getElem_append_left h1]
      refine ⟨hk.bs (k2.bs q1 (fun b hb => (q2 b hb).2)) (fun b hb => hS b (q2 b hb).1), fun b hb => ⟨.inl (q2 b hb).1, fun e => ?_⟩⟩
      rcases (hkin b e).1 with h1 | h1
      · exact (q2 b hb).2 h1
      · have := h.Fl b (q2 b hb).1; omega
    · have e1 : j = s.pend.length := by omega
      subst e1
      have e2 : s.pend.length = vs.length := hW.len.symm
      have g1 : (s.pend ++ [(i, b)])[s.pend.length]'(by simp) = (i, b) := by simp
      have g2 : (vs ++ [vb])[s.pend.length]'(by simp [e2]) = vb := by simp [e2]
      dsimp only
      rw [g1, g2]
      exact ⟨hk.bs hb hbS, fun k hk' => ⟨.inr (.inl hk'), fun e => (hkin k e).2.1 hk'⟩⟩
  · rcases (hkin b e).1 with h1 | h1
    · exact (d3 b hb).2 h1
    · have := h.Fl b (d3 b hb).1; omega
  · simpa [k2.frozen (a := ⟨g, 0, none⟩) hgl hpg] using h.f0
  · simpa [k2.frozen (a := ⟨g, 1, none⟩) hgl hpg] using h.f1
  · simpa [k2.frozen (a := ⟨g, 2, none⟩) hgl hpg] using h.f2
  · simpa [k2.frozen (a := ⟨g, 3, none⟩) hgl hpg] using h.f3
  · simpa [k2.frozen (a := ⟨g, 4, none⟩) hgl hpg] using h.f4
  · simpa [k2.frozen (a := ⟨g, 5, none⟩) hgl hpg] using h.f5
  · rintro (e | e | e)
    · exact h.Fg e
    · have := hbk g e; omega
    · exact hvS g e rfl
  · rintro (e | e | e)
    · exact h.Fm e
    · have := hbk m e; omega
    · rcases (hkin m e).1 with h1 | h1
      · exact hpm h1
      · omega
  · rintro k (e | e | e)
    · have := h.Fl k e; simp; omega
    · have := hbk k e; simp; omega
    · have := (hkin k e).2.2; simpa using this
  · intro x hx
    simp only [List.mem_append, List.mem_singleton] at hx
    rcases hx with hx | rfl
    · exact h.ok.pend x hx
    · exact ⟨hi, hl, hb.lt⟩



end Go.Proofs.YtjhbljkoapbkfaaGreat

namespace Go.Proofs.YtjhbljkoapbkfaaGreat
open Go.RowKit Go.Attic

theorem findS_cases (s : St) (n : Nat) (i : Int) : (s.on = false ∧ findS s n i = 5) ∨ (s.on = true ∧ inS n i = false ∧ findS s n i = 30) ∨ (s.on = true ∧ inS n i = true ∧ findS s n i = 0 ∧ ∃ k : Nat, i = (k : Int) ∧ k < n) := by
  cases hon : s.on with
  | false => exact .inl ⟨rfl, by simp [findS, hon]⟩
  | true =>
    cases hin : inS n i with
    | false => exact .inr (.inl ⟨rfl, rfl, by simp [findS, hon, hin]⟩)
    | true =>
      refine .inr (.inr ⟨rfl, rfl, by simp [findS, hon, hin], ?_⟩)
      simp [inS] at hin
      exact ⟨i.toNat, by omega, by omega⟩

theorem cell_two_new (w : World) (x y : Value) (t : TypeId) : ∀ j u, [x, y][j]? = some u → (w.alloc (.cells #[x, y] t)).cell? ((⟨w.heap.size, 0, none⟩ : Addr).add j) = some u := by
  intro j u hj
  match j, hj with
  | 0, hj => simp at hj; subst hj; simp [Addr.add]
  | 1, hj => simp at hj; subst hj; simp [Addr.add]

theorem owns_succ {W : World} {base : Nat} {e : TypeId} {size : Nat} {v : Value} {k : Nat} {xs : List Value} (h : W.ownsRow base e size v (k + 1) xs) : ∃ g cap, v = .slice (some ⟨g, 0, none⟩) (k + 1) cap := by
  obtain ⟨ao, cap, rfl, _, hg⟩ := owns_form h
  obtain ⟨g, rfl, _⟩ := hg (by omega)
  exact ⟨g, cap, rfl⟩

set_option maxRecDepth 100000 in
set_option maxHeartbeats 1000000 in
theorem write_yes {w : World} {g m : Nat} {p : Option Nat} {F : Nat → Prop} {n : Nat} {s : St} (h : Dk w g m p F n s) (i : Int) (vb : Value) (b : List Nat) (hv : Bs w vb b) (hbl : b.length ≤ 140737488355328) (hpl : s.pend.length < 1000000) (ho : s.ops ≤ 1000000) :
    Calls Tryz.prog 74 #[.pointer (some ⟨g, 0, none⟩), .int .i64 i, vb] w fun e w' => e = .returned (.int .i64 (writeS s n i b).2) ∧ Turn w g m F n (writeS s n i b).1 w' := by
  have hf := findable_yes i h
  rcases findS_cases s n i with ⟨hon, he⟩ | ⟨hon, hin, he⟩ | ⟨hon, hin, he, k, rfl, hk⟩
  · have e : writeS s n i b = (s, 5) := by simp [writeS, hon]
    rw [e]; clear e
    rw [he] at hf
    go_enter Tryz.func74, Tryz.ntmps74
    go_wp2_with fail
    refine hf.mono ?_
    rintro e w' ⟨rfl, rfl⟩
    go_wp2
    go_ret
    exact ⟨rfl, p, F, h, Keeps.refl _ _, fun _ h => .inl h⟩
  · have e : writeS s n i b = (s, 30) := by simp [writeS, hon, hin]
    rw [e]; clear e
    rw [he] at hf
    go_enter Tryz.func74, Tryz.ntmps74
    go_wp2_with fail
    refine hf.mono ?_
    rintro e w' ⟨rfl, rfl⟩
    go_wp2
    go_ret
    exact ⟨rfl, p, F, h, Keeps.refl _ _, fun _ h => .inl h⟩
  · rw [he] at hf
    have hv' := hv
    have hblt := hv.lt
    obtain ⟨ao, vcap, rfl, hvc, hvn, _, hcell⟩ := hv
    clear hcell hvn
    by_cases hb256 : b.length = 256
    · have e : writeS s n (k : Int) b = operS { s with pend := s.pend ++ [(k, b)] } := by simp [writeS, hon, hin, hb256]
      rw [e]; clear e
      obtain ⟨i0, hi, hz0, hz1, hz2⟩ := info_parts Tryz.info131
      obtain ⟨pv, vs, c1, hW⟩ := h.c1
      obtain ⟨pao, pcap, rfl⟩ := owns_slice hW.row
      have f1 := h.f1
      have hgl := h.gl
      have Hb := hide hb256
      have H := hide h
      have HW := hide hW
      rw [hb256] at hv' hvc ⊢
      have hpg : some g ≠ (Value.slice pao s.pend.length pcap).ownBlock := by
        intro e
        rw [HW.out.own] at e
        exact H.out.Fg (HW.out.pF g e.symm)
      have hv2 : Bs w.drew (.slice ao 256 vcap) b := hv'
      have hl2 : b.length ≤ 140737488355328 := hbl
      clear hb256 h hW hin hv' hon
      go_enter Tryz.func74, Tryz.ntmps74
      go_wp2_with fail
      refine hf.mono ?_
      rintro e w' ⟨rfl, rfl⟩
      go_wp2_with fail
      go_region_law (first
        | (go_simp; refine (own_any _ b _ hv2 hl2).mono ?_; rintro e w1 ⟨v1, rfl, ho1, hb1⟩; obtain ⟨ao1, cap1, rfl, _, _⟩ := owns_form ho1; rw [Hb.out] at ho1
           have hb1' : Below w.heap.size w w1 := ⟨hb1.os, hb1.tape, hb1.output, hb1.size, hb1.block⟩
           have hsz1 : w.heap.size ≤ w1.heap.size := hb1.size
           have c1' : w1.cell? ⟨g, 1, none⟩ = some (.slice pao s.pend.length pcap) := (by rw [hb1'.cell (p := ⟨g, 1, none⟩) hgl]; exact c1)
           have f1' : w1.frozen? ⟨g, 1, none⟩ = false := (by rw [hb1'.frozen (p := ⟨g, 1, none⟩) hgl]; exact f1)
           rw [Hb.out]
           have c1a := (Keeps.alloc (S := fun _ => False) w1 (.cells #[.int .i64 (k : Int), .slice ao1 256 cap1] 131)).cell c1' id
           have row1 := (Keeps.of_below (S := fun _ => False) hb1').owns HW.out.row (fun _ _ => id)
           skip)
        | (refine step_append_at rfl (.tmp 21) (.tmp 26) 73 rfl 0 131 i0 (.agg #[.int .i64 0, .slice none 0 0]) 2 32 Tryz.underlying73 hi hz0 hz1 hz2 rfl (by decide) (.slice pao s.pend.length pcap) s.pend.length (cellsW s.pend vs) rfl (row1.alloc _) ⟨w1.heap.size, 0, none⟩ 1 1 [.int .i64 (k : Int), .slice ao1 256 cap1] rfl rfl (cell_two_new _ _ _ _) (by simp [Value.oneCell']) (by unfold maxLen; omega) (by omega) (by omega) ?_
           intro v2 w2 ho2 hg2 hkin2
           obtain ⟨g2, cap2, rfl⟩ := owns_succ ho2
           have c1'' := hg2.cell (((Keeps.alloc (S := fun _ => False) w1 (.cells #[.int .i64 (k : Int), .slice ao1 256 cap1] 131))).cell c1' id) hpg
           have f1'' : w2.frozen? ⟨g, 1, none⟩ = false := (by rw [World.frozen?_of_block (w := w1) (a := ⟨g, 1, none⟩) ((hg2.block g (by simp; omega) hpg).trans (Below.heap_alloc _ _ _ (by omega)))]; exact f1')
           skip))
      all_goals
        have hlt1 := ho1.lt
        have z2 := hg2.size
        simp only [World.size_alloc] at z2
        have hK : Keeps (fun k => p = some k) w w2 := ((Keeps.of_below hb1').trans (Keeps.alloc w1 _)).trans (Keeps.of_grown hg2 (fun k hk => by rw [HW.out.own] at hk; exact hk))
        have hko : ∀ j, (Value.slice (some ⟨g2, 0, none⟩) (s.pend.length + 1) cap2).ownBlock = some j → (p = some j ∨ w.heap.size ≤ j) ∧ (Value.slice ao1 256 cap1).ownBlock ≠ some j ∧ j < w2.heap.size := by
          intro j hj
          have hj2 := owns_lt' ho2 j hj
          rcases hkin2 with e | e
          · rw [e, HW.out.own] at hj
            refine ⟨.inl hj, fun e2 => ?_, hj2⟩
            have := H.out.Fl j (HW.out.pF j hj)
            have := (hlt1 j e2).1
            simp at this
            omega
          · rw [e] at hj
            simp at hj
            refine ⟨.inr (by omega), fun e2 => ?_, hj2⟩
            have := (hlt1 j e2).2
            omega
        have hBs : Bs w2 (.slice ao1 256 cap1) b := by
          have q := Bs.of_owns ho1 hblt
          refine (((Keeps.alloc (S := fun k => p = some k) w1 _).trans (Keeps.of_grown hg2 (fun k hk => by rw [HW.out.own] at hk; exact hk))).bs q ?_)
          intro j hj e
          have := H.out.Fl j (HW.out.pF j e)
          have := (hlt1 j hj).1
          simp at this
          omega
        have hD := H.out.pushed c1 HW.out hK (v' := .slice (some ⟨g2, 0, none⟩) (s.pend.length + 1) cap2) (vb := .slice ao1 256 cap1) (i := k) (b := b) ho2 hko hBs (fun j hj => by have := hlt1 j hj; simp at this; omega) hk Hb.out
        have hKD : Keeps (Own g m F) w (w2.setCell ⟨g, 1, none⟩ (.slice (some ⟨g2, 0, none⟩) (s.pend.length + 1) cap2)) :=
          (hK.mono (fun k hk => .inr (.inr (HW.out.pF k hk)))).trans (Keeps.setCell w2 (.inl rfl) _)
        have hFf : ∀ j, (F j ∨ (Value.slice ao1 256 cap1).ownBlock = some j ∨ (Value.slice (some ⟨g2, 0, none⟩) (s.pend.length + 1) cap2).ownBlock = some j) → F j ∨ w.heap.size ≤ j := by
          rintro j (e | e | e)
          · exact .inl e
          · have := (hlt1 j e).1; simp at this; exact .inr this
          · rcases (hko j e).1 with e | e
            · exact .inl (HW.out.pF j e)
            · exact .inr e
        have HD := hide hD
        have HKD := hide hKD
        have HFf := hide hFf
        clear hD hKD hFf hBs hko hK ho2 hg2 hkin2 ho1 hb1 hb1' row1 c1a c1' c1'' f1'' f1'
        go_wp2_with fail
        refine (operate_yes HD.out (by simp; omega) ho).mono ?_
        rintro e w4 ⟨rfl, p4, hD4, k4, _⟩
        go_wp2
        go_ret
        exact ⟨by simp, p4, _, hD4, HKD.out.trans' k4 (fun j hj => .inl (Own.gm j hj)), HFf.out⟩
    · have e : writeS s n (k : Int) b = (s, 31) := by simp [writeS, hon, hin, hb256]
      rw [e]; clear e
      have hne : ((b.length : Int) != 256) = true := by simp; omega
      clear hb256
      go_enter Tryz.func74, Tryz.ntmps74
      go_wp2_with fail
      refine hf.mono ?_
      rintro e w' ⟨rfl, rfl⟩
      go_wp2
      go_ret
      exact ⟨rfl, p, F, h, Keeps.refl _ _, fun _ h => .inl h⟩



end Go.Proofs.YtjhbljkoapbkfaaGreat

namespace Go.Proofs.YtjhbljkoapbkfaaGreat
open Go.RowKit Go.Attic

set_option maxRecDepth 100000 in
set_option maxHeartbeats 400000 in
theorem mul64_one (n : Nat) (w : World) (hn : n ≤ 1000000) : Calls Tryz.prog 100 #[.int .u64 1, .int .u64 (n : Int)] w fun e w' => e = .returned (.tuple #[.int .u64 0, .int .u64 (n : Int)]) ∧ w = w' := by
  have hm : bits .and .u64 (n : Int) 4294967295 = (n : Int) := by
    rw [show (4294967295 : Int) = ((4294967295 : Nat) : Int) from rfl, u64_and_nat _ _ (by omega) (by omega)]
    congr 1
    rw [show (4294967295 : Nat) = 2 ^ 32 - 1 from rfl, Nat.and_two_pow_sub_one_eq_mod]
    omega
  have h1 : bits .and .u64 1 4294967295 = 1 := by decide
  have h0 : bits .and .u64 0 4294967295 = 0 := by decide
  have hd : (n : Int) / 2 ^ 32 = 0 := by omega
  have hd2 : (n : Int) / 4294967296 = 0 := by omega
  go_enter Tryz.func100, Tryz.ntmps100
  go_wp2
  go_ret2
  exact ⟨by simp, rfl⟩

set_option maxRecDepth 100000 in
set_option maxHeartbeats 400000 in
theorem mul_one (n : Nat) (w : World) (hn : n ≤ 1000000) : Calls Tryz.prog 91 #[.int .u64 1, .int .u64 (n : Int)] w fun e w' => e = .returned (.tuple #[.int .u64 0, .int .u64 (n : Int)]) ∧ w = w' := by
  go_enter Tryz.func91, Tryz.ntmps91
  go_wp2_with fail
  refine (mul64_one n w hn).mono ?_
  rintro e w' ⟨rfl, rfl⟩
  go_wp2
  go_ret2
  exact ⟨by simp, rfl⟩

/-- k of n bytes are x. -/
def fillR (x n k : Nat) : List Nat := List.replicate k x ++ List.replicate (n - k) 0
theorem fillR_length (x n k : Nat) (h : k ≤ n) : (fillR x n k).length = n := by simp [fillR]; omega
theorem fillR_getD (x n k i : Nat) (h : k ≤ n) : (fillR x n k).getD i 0 = if i < k then x else 0 := by
  simp only [fillR, List.getD_eq_getElem?_getD]
  by_cases h1 : i < k
  · rw [if_pos h1, List.getElem?_append_left (by simpa using h1)]; simp [h1]
  · rw [if_neg h1, List.getElem?_append_right (by simpa using h1)]
    simp [List.getElem?_replicate]
    split <;> rfl
theorem fillR_splice (x n k c : Nat) (h : k + c ≤ n) : splice (fillR x n k) k (List.replicate c x) = fillR x n (k + c) := by
  refine ext_getD ?_ fun i hi => ?_
  · rw [length_splice _ _ _ (by rw [fillR_length _ _ _ (by omega)]; simpa using h), fillR_length _ _ _ (by omega), fillR_length _ _ _ h]
  · rw [splice_getD _ _ _ _ (by rw [fillR_length _ _ _ (by omega)]; simpa using h), fillR_getD _ _ _ _ (by omega), fillR_getD _ _ _ _ h]
    simp only [List.length_replicate, List.getD_eq_getElem?_getD, List.getElem?_replicate]
    by_cases h1 : i < k
    · rw [if_neg (by omega), if_pos h1, if_pos (by omega)]
    · by_cases h2 : i < k + c
      · rw [if_pos (by omega), if_pos h2, if_pos (by omega)]; rfl
      · rw [if_neg (by omega), if_neg h1, if_neg h2]

set_option maxRecDepth 100000 in
set_option maxHeartbeats 1000000 in
theorem repeat_one (x n : Nat) (v : Value) (w : World) (hv : Bs w v [x]) (hn : n ≤ 1000000) :
    Calls Tryz.prog 80 #[v, .int .i64 (n : Int)] w fun e w' => ∃ v', e = .returned v' ∧ Bs w' v' (List.replicate n x) ∧ (∀ b, v'.ownBlock = some b → w.heap.size ≤ b ∧ b < w'.heap.size) ∧ Below w.heap.size w w' := by
  obtain ⟨i0, hi, hz0, hz1, hz2⟩ := info_parts Tryz.info5
  have hinf : (Tryz.prog.info? 5).map (·.size) = some 1 := by kernel_rfl
  have hlt := hv.lt
  have hx : x < 256 := hlt x (by simp)
  obtain ⟨ao, vcap, rfl, hvc, hvn, _, hcell⟩ := hv
  obtain ⟨vb, voff, rfl, hc⟩ := hcell (by simp)
  have hc0 := hc 0 (by simp)
  have hvl : vb < w.heap.size := by have := World.block_lt_of_cell? w _ hc0; simpa using this
  clear hcell hc hvn
  simp only [List.length_singleton, Nat.add_zero, List.getD_cons_zero] at hc0 hvc ⊢
  obtain ⟨q, hq⟩ : ∃ q, min 1 n = q := ⟨_, rfl⟩
  have hq1 : (cellsB (List.replicate q x)).length = Nat.min 1 n := by rw [cellsB_length, List.length_replicate, ← hq]
  have hq2 : 0 + (cellsB (List.replicate q x)).length ≤ n := by rw [cellsB_length, List.length_replicate]; omega
  have hsrc0 : ∀ w1, Below w.heap.size w w1 → ∀ j u, (cellsB (List.replicate q x))[j]? = some u → w1.cell? ((⟨vb, voff, none⟩ : Addr).add j) = some u := by
    intro w1 hb j u hj
    have hjl : j < q := by have := (List.getElem?_eq_some_iff.1 hj).1; simpa [cellsB] using this
    obtain rfl : j = 0 := by omega
    rw [Addr.add_lit, Nat.add_zero, hb.cell (p := ⟨vb, voff, none⟩) hvl, hc0, ← hj]
    simp [cellsB, hjl]
  have hqn : q ≤ n := by omega
  have hq0 : 0 < n → 0 < q := by omega
  have Hq := hide hq
  clear hq
  go_enter Tryz.func80, Tryz.ntmps80
  go_wp2_with fail
  refine (mul_one n w hn).mono ?_
  rintro e w' ⟨rfl, rfl⟩
  go_wp2_with (first
    | (at_make; refine wpList_make_full _ rfl (.tmp 29) (.tmp 29) 30 rfl 0 5 i0 (.int .u8 0) 1 Tryz.underlying30 hi hz0 hz1 .i64 .i64 n n n rfl rfl rfl rfl (by rw [hz2]; omega) (by unfold maxLen; omega) (Nat.zero_le _) ?_; intro w1 hown hgrow; have hown' := (show w1.ownsRow 0 5 1 (.slice (some ⟨w.heap.size, 0, none⟩) n n) n (cellsB (fillR x n 0)) by rw [made_zeros] at hown; simpa [fillR] using hown); have hb1 : Below w.heap.size w w1 := (Below.refl _ _).grown hgrow (Nat.le_refl _) (by intro k hk; cases hk); have hsrc := hsrc0 w1 hb1)
    | (refine wpList_copy_owns rfl (.tmp 31) (.tmp 32) 30 30 rfl 5 Tryz.underlying30 hinf w.heap.size 0 n n ⟨vb, voff, none⟩ 1 vcap rfl rfl n n _ hown' (cellsB (List.replicate q x)) hq1 hsrc hq2 (cellsB_oneCell _) ?_; intro w2 hown2 k2; rw [cellsB_length, List.length_replicate])
    | fail)
  have d1 : decide ((n : Int) < 0) = false := by simp
  have d2 : decide ((9223372036854775807 : Int) < (n : Int)) = false := by simp; omega
  simp only [d1, d2]
  rw [cellsB_splice, fillR_splice _ _ _ _ (by omega), Nat.zero_add] at hown2
  have hb2 : Below w.heap.size w w2 := hb1.trans (k2.below (fun k hk => by omega) hb1.size)
  clear d1 d2 hown' hown hgrow hsrc hsrc0 hc0 k2 hb1 hq1 hq2
  go_loopw [8] (fun i wr => ∃ k : Nat, k ≤ n ∧ (0 < n → 0 < k) ∧ i = .int .i64 k ∧ wr.ownsRow 0 5 1 (.slice (some ⟨w.heap.size, 0, none⟩) n n) n (cellsB (fillR x n k)) ∧ Below w.heap.size w wr) (fun i _ => n - (intOf i).toNat)
  case atStart => exact ⟨q, hqn, hq0, rfl, hown2, hb2⟩
  case round =>
    obtain ⟨k, hk, hk0, rfl, o1, b1⟩ := hrel
    clear hown2 hb2 hq0 hqn
    by_cases hkn : k < n
    · obtain ⟨c, hc⟩ : ∃ c, min k (n - k) = c := ⟨_, rfl⟩
      have hc1 : (cellsB (List.replicate c x)).length = Nat.min k (n - k) := by rw [cellsB_length, List.length_replicate, ← hc]
      have hc2 : k + (cellsB (List.replicate c x)).length ≤ n := by rw [cellsB_length, List.length_replicate]; omega
      have hcp : 0 < c := by have := hk0 (by omega); omega
      have hcn : k + c ≤ n := by omega
      have hsrc : ∀ j u, (cellsB (List.replicate c x))[j]? = some u → wr.drew.cell? ((⟨w.heap.size, 0, none⟩ : Addr).add j) = some u := by
        intro j u hj
        have hjl : j < c := by have := (List.getElem?_eq_some_iff.1 hj).1; simpa [cellsB] using this
        have := (Bs.of_owns o1 (fun y hy => by
          obtain ⟨i, _, rfl⟩ := mem_getD hy
          rw [fillR_getD _ _ _ _ hk]; split <;> omega)).cells ⟨w.heap.size, 0, none⟩ rfl j u
        refine this ?_
        rw [← hj]
        have h1 : j < k := by omega
        have := fillR_getD x n k j hk
        rw [if_pos h1] at this
        simp only [cellsB, List.getElem?_map]
        congr 1
        rw [List.getElem?_replicate, if_pos hjl]
        simp only [fillR]
        rw [List.getElem?_append_left (by simpa using h1), List.getElem?_replicate, if_pos h1]
      have o1' := World.ownsRow.drew o1
      have hnk : ¬ (n = k) := by omega
      have hwr : IntKind.i64.wrap ((k : Int) + (c : Int)) = (k : Int) + (c : Int) := by rw [IntKind.wrap_i64]; omega
      have Hc := hide hc
      clear o1 hc
      go_wp2_with fail
      go_region_held3 (fun _ => True) (trivial) (first
        | (refine step_copy_own rfl (.tmp 41) (.tmp 44) 30 30 rfl 5 Tryz.underlying30 hinf w.heap.size k (n - k) (n - k) ⟨w.heap.size, 0, none⟩ k n rfl rfl n n _ o1' (cellsB (List.replicate c x)) hc1 hsrc hc2 (cellsB_oneCell _) ?_; intro w3 o3 k3; rw [cellsB_length, List.length_replicate])
        )
      all_goals
        rw [cellsB_splice, fillR_splice _ _ _ _ hcn] at o3
        have b3 : Below w.heap.size w w3 := b1.drew.trans (k3.below (fun j hj => by omega) b1.size)
        have O3 := hide o3
        clear o3 o1' hsrc k3
        go_wp2_with fail
        exact ⟨⟨k + c, hcn, by omega, by go_num, O3.out, b3⟩, by simp [intOf]; omega⟩
    · obtain rfl : k = n := by omega
      go_wp2_with fail
      go_ret
      have e : fillR x k k = List.replicate k x := by simp [fillR]
      rw [e] at o1
      refine ⟨_, rfl, ?_, ?_, b1⟩
      · exact Bs.of_owns o1 (fun y hy => by rw [List.eq_of_mem_replicate hy]; exact hx)
      · intro b hb
        have h1 := owns_lt' o1 b hb
        have e2 : w.heap.size = b := by simpa [Value.ownBlock] using hb
        omega

theorem operS_left (s : St) : (operS s).2 = 0 ∨ (operS s).2 = 5 := by
  simp only [operS]
  split
  · exact .inl rfl
  · split
    · exact .inr rfl
    · exact .inl rfl

theorem operS_same (s : St) (h : (operS s).2 = 0) : (operS s).1.med = s.med ∧ (operS s).1.pend = s.pend := by
  simp only [operS] at h ⊢
  split
  · exact ⟨rfl, rfl⟩
  · rename_i h0
    rw [if_neg h0] at h
    split
    · rename_i h1
      rw [if_pos h1] at h
      simp at h
    · exact ⟨rfl, rfl⟩

set_option maxRecDepth 100000 in
set_option maxHeartbeats 400000 in
theorem flush_yes {w : World} {g m : Nat} {p : Option Nat} {F : Nat → Prop} {n : Nat} {s : St} (h : Dk w g m p F n s) (hpl : s.pend.length ≤ 1000000) (ho : s.ops ≤ 1000000) :
    Calls Tryz.prog 55 #[.pointer (some ⟨g, 0, none⟩)] w fun e w' => e = .returned (.int .i64 (flushS s).2) ∧ Turn w g m F n (flushS s).1 w' := by
  have hp := powered_yes h
  cases hon : s.on with
  | false =>
    have e : flushS s = (s, 5) := by simp [flushS, hon]
    rw [e]; clear e
    rw [hon] at hp
    go_enter Tryz.func55, Tryz.ntmps55
    go_wp2_with fail
    refine hp.mono ?_
    rintro e w' ⟨rfl, rfl⟩
    go_wp2
    go_ret
    exact ⟨rfl, p, F, h, Keeps.refl _ _, fun _ h => .inl h⟩
  | true =>
    rw [hon] at hp
    have hop := operate_yes h hpl ho
    rcases operS_left s with h0 | h5
    · have e : flushS s = ({ (operS s).1 with med := settleL s.med s.pend (List.replicate s.pend.length 15), pend := [] }, 0) := by simp [flushS, hon, h0]
      rw [e]; clear e
      obtain ⟨e1, e2⟩ := operS_same s h0
      obtain ⟨s1, hs1⟩ : ∃ s1, (operS s).1 = s1 := ⟨_, rfl⟩
      have hpr : operS s = (s1, 0) := by rw [← hs1, ← h0]
      rw [hpr] at hop
      rw [hs1] at e1 e2 ⊢
      rw [← e1, ← e2]
      have hpl1 : s1.pend.length ≤ 1000000 := by rw [e2]; exact hpl
      clear e1 e2 hs1 hpr hon h0
      go_enter Tryz.func55, Tryz.ntmps55
      go_wp2_with fail
      refine hp.mono ?_
      rintro e w' ⟨rfl, rfl⟩
      go_wp2_with fail
      refine hop.mono ?_
      rintro e w1 ⟨rfl, p1, h1, k1, hp1⟩
      dsimp only at h1
      obtain ⟨pv, vs, c1, hW⟩ := h1.c1
      obtain ⟨pao, pcap, rfl⟩ := owns_slice hW.row
      have Hp1 := hide hp1
      have c1a := (Keeps.alloc (S := fun _ => False) w1 (.cells #[.int .u8 15] 5)).cell c1 id
      clear hp1 hW hop hp
      go_wp2_with fail
      have b0 : Bs (w1.alloc (.cells #[.int .u8 15] 5)) (.slice (some ⟨w1.heap.size, 0, none⟩) 1 1) [15] := Bs.one w1 5 15 15 rfl (by omega)
      refine (repeat_one 15 _ _ _ b0 hpl1).mono ?_
      rintro e w2 ⟨v2, rfl, b2, l2, bel2⟩
      have h2 := (h1.mono ((Below.refl _ _).alloc (Nat.le_refl _) _)).mono bel2
      have k2 : Keeps (Own g m F) w w2 := ((k1.mono Own.gm).trans (Keeps.alloc w1 _)).trans (Keeps.of_below bel2)
      have hl2 := h2.ml
      clear b0
      have hml1 := h1.ml
      have B2 := hide b2
      obtain ⟨ao2, cap2, rfl, _⟩ := b2
      have hl : (List.replicate s1.pend.length 15).length = s1.pend.length := List.length_replicate
      rw [hl] at l2 B2 ⊢
      clear hl
      go_wp2_with fail
      refine (settle_yes h2 _ _ B2.out (fun _ b hb e => by have := (l2 b hb).1; simp at this; omega) hpl1 (by simp; omega)).mono ?_
      rintro e w3 ⟨rfl, h3, k3⟩
      go_wp2
      go_ret
      exact ⟨rfl, none, F, h3, k2.trans (k3.mono Own.gm), fun _ h => .inl h⟩
    · have e : flushS s = operS s := by simp [flushS, hon, h5]
      rw [e]; clear e
      obtain ⟨s1, hs1⟩ : ∃ s1, (operS s).1 = s1 := ⟨_, rfl⟩
      have hpr : operS s = (s1, 5) := by rw [← hs1, ← h5]
      rw [hpr] at hop ⊢
      clear hs1 hpr hon h5
      go_enter Tryz.func55, Tryz.ntmps55
      go_wp2_with fail
      refine hp.mono ?_
      rintro e w' ⟨rfl, rfl⟩
      go_wp2_with fail
      refine hop.mono ?_
      rintro e w1 ⟨rfl, p1, h1, k1, _⟩
      go_wp2
      go_ret
      exact ⟨rfl, p1, F, h1, k1.mono Own.gm, fun _ h => .inl h⟩



end Go.Proofs.YtjhbljkoapbkfaaGreat
