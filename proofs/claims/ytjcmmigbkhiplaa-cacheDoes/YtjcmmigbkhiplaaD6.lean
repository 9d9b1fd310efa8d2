/- Contract: Write. -/
import Derived.Test.YtjcmmigbkhiplaaD5
set_option linter.unusedSimpArgs false
set_option linter.unusedVariables false
namespace Go.Proofs.Ytjcmmigbkhiplaa
open Go.RowKit Go.Attic

theorem findS_cases (s : St) (n : Nat) (i : Int) : (s.on = false ∧ findS s n i = 5) ∨ (s.on = true ∧ inS n i = false ∧ findS s n i = 30) ∨ (s.on = true ∧ inS n i = true ∧ findS s n i = 0 ∧ ∃ k : Nat, i = (k : Int) ∧ k < n) := by
  cases hon : s.on with
  | false => exact .inl ⟨rfl, by simp [findS, hon]⟩
  | true =>
    cases hin : inS n i with
    | false => exact .inr (.inl ⟨rfl, rfl, by simp [findS, hon, hin]⟩)
    | true =>
      refine .inr (.inr ⟨rfl, rfl, by simp [findS, hon, hin], ?_⟩)
      simp [inS] at hin
      exact ⟨i.toNat, by omega, by omega⟩

theorem cell_two_new (w : World) (x y : Value) (t : TypeId) : ∀ j u, [x, y][j]? = some u → (w.alloc (.cells #[x, y] t)).cell? ((⟨w.heap.size, 0, none⟩ : Addr).add j) = some u := by
  intro j u hj
  match j, hj with
  | 0, hj => simp at hj; subst hj; simp [Addr.add]
  | 1, hj => simp at hj; subst hj; simp [Addr.add]

theorem owns_succ {W : World} {base : Nat} {e : TypeId} {size : Nat} {v : Value} {k : Nat} {xs : List Value} (h : W.ownsRow base e size v (k + 1) xs) : ∃ g cap, v = .slice (some ⟨g, 0, none⟩) (k + 1) cap := by
  obtain ⟨ao, cap, rfl, _, hg⟩ := owns_form h
  obtain ⟨g, rfl, _⟩ := hg (by omega)
  exact ⟨g, cap, rfl⟩

set_option maxRecDepth 100000 in
set_option maxHeartbeats 1000000 in
theorem write_yes {w : World} {g m : Nat} {p : Option Nat} {F : Nat → Prop} {n : Nat} {s : St} (h : Dk w g m p F n s) (i : Int) (vb : Value) (b : List Nat) (hv : Bs w vb b) (hbl : b.length ≤ 140737488355328) (hpl : s.pend.length < 1000000) (ho : s.ops ≤ 1000000) :
    Calls Try.prog 20 #[.pointer (some ⟨g, 0, none⟩), .int .i64 i, vb] w fun e w' => e = .returned (.int .i64 (writeS s n i b).2) ∧ Turn w g m F n (writeS s n i b).1 w' := by
  have hf := findable_yes i h
  rcases findS_cases s n i with ⟨hon, he⟩ | ⟨hon, hin, he⟩ | ⟨hon, hin, he, k, rfl, hk⟩
  · have e : writeS s n i b = (s, 5) := by simp [writeS, hon]
    rw [e]; clear e
    rw [he] at hf
    go_enter Try.func20, Try.ntmps20
    go_wp2_with fail
    refine hf.mono ?_
    rintro e w' ⟨rfl, rfl⟩
    go_wp2
    go_ret
    exact ⟨rfl, p, F, h, Keeps.refl _ _, fun _ h => .inl h⟩
  · have e : writeS s n i b = (s, 30) := by simp [writeS, hon, hin]
    rw [e]; clear e
    rw [he] at hf
    go_enter Try.func20, Try.ntmps20
    go_wp2_with fail
    refine hf.mono ?_
    rintro e w' ⟨rfl, rfl⟩
    go_wp2
    go_ret
    exact ⟨rfl, p, F, h, Keeps.refl _ _, fun _ h => .inl h⟩
  · rw [he] at hf
    have hv' := hv
    have hblt := hv.lt
    obtain ⟨ao, vcap, rfl, hvc, hvn, _, hcell⟩ := hv
    clear hcell hvn
    by_cases hb256 : b.length = 256
    · have e : writeS s n (k : Int) b = operS { s with pend := s.pend ++ [(k, b)] } := by simp [writeS, hon, hin, hb256]
      rw [e]; clear e
      obtain ⟨i0, hi, hz0, hz1, hz2⟩ := info_parts Try.info93
      obtain ⟨pv, vs, c1, hW⟩ := h.c1
      obtain ⟨pao, pcap, rfl⟩ := owns_slice hW.row
      have f1 := h.f1
      have hgl := h.gl
      have Hb := hide hb256
      have H := hide h
      have HW := hide hW
      rw [hb256] at hv' hvc ⊢
      have hpg : some g ≠ (Value.slice pao s.pend.length pcap).ownBlock := by
        intro e
        rw [HW.out.own] at e
        exact H.out.Fg (HW.out.pF g e.symm)
      have hv2 : Bs w.drew (.slice ao 256 vcap) b := hv'
      have hl2 : b.length ≤ 140737488355328 := hbl
      clear hb256 h hW hin hv' hon
      go_enter Try.func20, Try.ntmps20
      go_wp2_with fail
      refine hf.mono ?_
      rintro e w' ⟨rfl, rfl⟩
      go_wp2_with fail
      go_region_law (first
        | (go_simp; refine (own_any _ b _ hv2 hl2).mono ?_; rintro e w1 ⟨v1, rfl, ho1, hb1⟩; obtain ⟨ao1, cap1, rfl, _, _⟩ := owns_form ho1; rw [Hb.out] at ho1
           have hb1' : Below w.heap.size w w1 := ⟨hb1.os, hb1.tape, hb1.output, hb1.size, hb1.block⟩
           have hsz1 : w.heap.size ≤ w1.heap.size := hb1.size
           have c1' : w1.cell? ⟨g, 1, none⟩ = some (.slice pao s.pend.length pcap) := (by rw [hb1'.cell (p := ⟨g, 1, none⟩) hgl]; exact c1)
           have f1' : w1.frozen? ⟨g, 1, none⟩ = false := (by rw [hb1'.frozen (p := ⟨g, 1, none⟩) hgl]; exact f1)
           rw [Hb.out]
           have c1a := (Keeps.alloc (S := fun _ => False) w1 (.cells #[.int .i64 (k : Int), .slice ao1 256 cap1] 93)).cell c1' id
           have row1 := (Keeps.of_below (S := fun _ => False) hb1').owns HW.out.row (fun _ _ => id)
           skip)
        | (refine step_append_at rfl (.tmp 21) (.tmp 26) 64 rfl 0 93 i0 (.agg #[.int .i64 0, .slice none 0 0]) 2 32 Try.underlying64 hi hz0 hz1 hz2 rfl (by decide) (.slice pao s.pend.length pcap) s.pend.length (cellsW s.pend vs) rfl (row1.alloc _) ⟨w1.heap.size, 0, none⟩ 1 1 [.int .i64 (k : Int), .slice ao1 256 cap1] rfl rfl (cell_two_new _ _ _ _) (by simp [Value.oneCell']) (by unfold maxLen; omega) (by omega) (by omega) ?_
           intro v2 w2 ho2 hg2 hkin2
           obtain ⟨g2, cap2, rfl⟩ := owns_succ ho2
           have c1'' := hg2.cell (((Keeps.alloc (S := fun _ => False) w1 (.cells #[.int .i64 (k : Int), .slice ao1 256 cap1] 93))).cell c1' id) hpg
           have f1'' : w2.frozen? ⟨g, 1, none⟩ = false := (by rw [World.frozen?_of_block (w := w1) (a := ⟨g, 1, none⟩) ((hg2.block g (by simp; omega) hpg).trans (Below.heap_alloc _ _ _ (by omega)))]; exact f1')
           skip))
      all_goals
        have hlt1 := ho1.lt
        have z2 := hg2.size
        simp only [World.size_alloc] at z2
        have hK : Keeps (fun k => p = some k) w w2 := ((Keeps.of_below hb1').trans (Keeps.alloc w1 _)).trans (Keeps.of_grown hg2 (fun k hk => by rw [HW.out.own] at hk; exact hk))
        have hko : ∀ j, (Value.slice (some ⟨g2, 0, none⟩) (s.pend.length + 1) cap2).ownBlock = some j → (p = some j ∨ w.heap.size ≤ j) ∧ (Value.slice ao1 256 cap1).ownBlock ≠ some j ∧ j < w2.heap.size := by
          intro j hj
          have hj2 := owns_lt' ho2 j hj
          rcases hkin2 with e | e
          · rw [e, HW.out.own] at hj
            refine ⟨.inl hj, fun e2 => ?_, hj2⟩
            have := H.out.Fl j (HW.out.pF j hj)
            have := (hlt1 j e2).1
            simp at this
            omega
          · rw [e] at hj
            simp at hj
            refine ⟨.inr (by omega), fun e2 => ?_, hj2⟩
            have := (hlt1 j e2).2
            omega
        have hBs : Bs w2 (.slice ao1 256 cap1) b := by
          have q := Bs.of_owns ho1 hblt
          refine (((Keeps.alloc (S := fun k => p = some k) w1 _).trans (Keeps.of_grown hg2 (fun k hk => by rw [HW.out.own] at hk; exact hk))).bs q ?_)
          intro j hj e
          have := H.out.Fl j (HW.out.pF j e)
          have := (hlt1 j hj).1
          simp at this
          omega
        have hD := H.out.pushed c1 HW.out hK (v' := .slice (some ⟨g2, 0, none⟩) (s.pend.length + 1) cap2) (vb := .slice ao1 256 cap1) (i := k) (b := b) ho2 hko hBs (fun j hj => by have := hlt1 j hj; simp at this; omega) hk Hb.out
        have hKD : Keeps (Own g m F) w (w2.setCell ⟨g, 1, none⟩ (.slice (some ⟨g2, 0, none⟩) (s.pend.length + 1) cap2)) :=
          (hK.mono (fun k hk => .inr (.inr (HW.out.pF k hk)))).trans (Keeps.setCell w2 (.inl rfl) _)
        have hFf : ∀ j, (F j ∨ (Value.slice ao1 256 cap1).ownBlock = some j ∨ (Value.slice (some ⟨g2, 0, none⟩) (s.pend.length + 1) cap2).ownBlock = some j) → F j ∨ w.heap.size ≤ j := by
          rintro j (e | e | e)
          · exact .inl e
          · have := (hlt1 j e).1; simp at this; exact .inr this
          · rcases (hko j e).1 with e | e
            · exact .inl (HW.out.pF j e)
            · exact .inr e
        have HD := hide hD
        have HKD := hide hKD
        have HFf := hide hFf
        clear hD hKD hFf hBs hko hK ho2 hg2 hkin2 ho1 hb1 hb1' row1 c1a c1' c1'' f1'' f1'
        go_wp2_with fail
        refine (operate_yes HD.out (by simp; omega) ho).mono ?_
        rintro e w4 ⟨rfl, p4, hD4, k4, _⟩
        go_wp2
        go_ret
        exact ⟨by simp, p4, _, hD4, HKD.out.trans' k4 (fun j hj => .inl (Own.gm j hj)), HFf.out⟩
    · have e : writeS s n (k : Int) b = (s, 31) := by simp [writeS, hon, hin, hb256]
      rw [e]; clear e
      have hne : ((b.length : Int) != 256) = true := by simp; omega
      clear hb256
      go_enter Try.func20, Try.ntmps20
      go_wp2_with fail
      refine hf.mono ?_
      rintro e w' ⟨rfl, rfl⟩
      go_wp2
      go_ret
      exact ⟨rfl, p, F, h, Keeps.refl _ _, fun _ h => .inl h⟩


end Go.Proofs.Ytjcmmigbkhiplaa
