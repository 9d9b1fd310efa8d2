/- Contract: Clone. -/
import Derived.Test.YtjcobealnjkkcaaT2
import Derived.Test.YtjcobealnjkkcaaIter4
set_option linter.unusedSimpArgs false
set_option linter.unusedVariables false
namespace Go.Proofs.Ytjcobealnjkkcaa
open Go.RowKit Go.Attic Go.Shelf
attribute [local go_sem] Oper.semAt_some

theorem keep3 {w w' : World} {a b c : Addr} {u v x : Value} (h : w.cell? a = some u ∧ w.cell? b = some v ∧ w.cell? c = some x) (hb : Below w.heap.size w w') : w'.cell? a = some u ∧ w'.cell? b = some v ∧ w'.cell? c = some x :=
  have k := Keeps.of_below (S := fun _ => False) hb
  ⟨k.cell h.1 id, k.cell h.2.1 id, k.cell h.2.2 id⟩

set_option maxRecDepth 100000 in
set_option maxHeartbeats 2000000 in
theorem clone_yes {w : World} {g m : Nat} {p : Option Nat} {F : Nat → Prop} {n : Nat} {s : St} (h : Dk w g m p F n s) (hpl : s.pend.length ≤ 1000000) :
    Calls Try.prog 14 #[.pointer (some ⟨g, 0, none⟩)] w fun e w' => ∃ g' m' p' F', e = .returned (.pointer (some ⟨g', 0, none⟩)) ∧ Dk w' g' m' p' F' n s ∧ (∀ k, Own g' m' F' k → w.heap.size ≤ k) ∧ Below w.heap.size w w' := by
  obtain ⟨cap, c0, hm⟩ := h.c0
  have c4 := h.c4
  have c5 := h.c5
  have c2 := h.c2
  obtain ⟨vk, c3, hk, _⟩ := h.c3
  have hpkl := h.ok.picks
  obtain ⟨kao, kcap, rfl, _⟩ := id hk
  have hmade := isMade_yes h
  have hml : s.med.length ≤ 140737488355328 := by rw [h.ok.len]; have := h.ok.n2; omega
  have hbm := Bs.of_owns hm h.ok.lt
  have Hbm := hide hbm
  have Hml := hide hml
  clear hbm hml
  refine (callsIn_wide (n := 3)).1 ?_
  refine callsIn_of_wp_marks Try.func14 rfl trivial ?_ rfl
  simp only [Try.ntmps14, List.size_toArray, List.length_cons, List.length_nil, Nat.reduceAdd, Nat.reduceSub, Array.replicate_succ, Array.replicate_zero, List.push_toArray, List.append_toArray, List.nil_append, List.cons_append]
  gi_wp2
  refine ⟨trivial, (callsIn_wide.2 hmade).mono ?_⟩
  rintro e w' ⟨rfl, rfl⟩
  gi_wp2
  refine wpIn_wide.2 ?_
  have kg : ∀ W, Below w.heap.size w W → (W.cell? ⟨g, 0, none⟩ = some (.slice (some ⟨m, 0, none⟩) s.med.length cap) ∧ W.cell? ⟨g, 4, none⟩ = some (.int .i64 (s.ops : Int)) ∧ W.cell? ⟨g, 5, none⟩ = some (.bool s.on)) := fun W hb => keep3 ⟨c0, c4, c5⟩ hb
  have Kg := hide kg
  have Kg2 : Hid (∀ W, Below w.heap.size w W → (W.cell? ⟨g, 2, none⟩ = some (.int .i64 (s.left : Int)) ∧ W.cell? ⟨g, 3, none⟩ = some (.slice kao s.picks.length kcap))) := hide (fun W hb => ⟨(Keeps.of_below (S := fun _ => False) hb).cell c2 id, (Keeps.of_below (S := fun _ => False) hb).cell c3 id⟩)
  clear kg c0 c4 c5 c2 c3
  go_region_held3 (fun w' => w'.cell? ⟨g, 0, none⟩ = some (.slice (some ⟨m, 0, none⟩) s.med.length cap) ∧ w'.cell? ⟨g, 4, none⟩ = some (.int .i64 (s.ops : Int)) ∧ w'.cell? ⟨g, 5, none⟩ = some (.bool s.on))
    (first | exact Kg.out _ (Below.refl _ w).drew | exact Kg.out _ ((Below.refl _ w).alloc (Nat.le_refl _) _).drew | exact Kg.out _ hB1 | exact Kg.out _ (hB1.alloc hz1 _) | exact Kg.out _ ((hB1.alloc hz1 _).alloc (by simp; omega) _) | exact Kg.out _ (((hB1.alloc hz1 _).alloc (by simp; omega) _).setCell (p := ⟨_, _, none⟩) (by simp; omega) _) | exact Kg.out _ ((hB1.alloc hz1 _).setCell (p := ⟨_, _, none⟩) (by simp) _))
    (first
      | (go_at_call 42; refine (own_any _ s.med w.drew (Hbm.out.mono ((Below.refl _ _).drew)) Hml.out).mono ?_; rintro e w1 ⟨v1, rfl, ho1, hb1⟩
         obtain ⟨ao1, cap1, rfl⟩ := owns_slice ho1
         have hB1 : Below w.heap.size w w1 := ((Below.refl _ w).drew).trans hb1
         have hz1 := hB1.size
         have hvc : ∀ o, ((w1.alloc (.cells #[.pointer none] 23)).alloc o).cell? ⟨w1.heap.size, 0, none⟩ = some (.pointer none) := (fun o => ((Boxed.new w1 23 _).alloc o).cell)
         have hvf : ∀ o, ((w1.alloc (.cells #[.pointer none] 23)).alloc o).frozen? ⟨w1.heap.size, 0, none⟩ = false := (fun o => ((Boxed.new w1 23 _).alloc o).frozen)
         skip)
      | (go_at_call 42; refine (own_any _ s.med (w.alloc (.cells #[.pointer none] 23)).drew (Hbm.out.mono (((Below.refl _ w).alloc (Nat.le_refl _) _).drew)) Hml.out).mono ?_; rintro e w1 ⟨v1, rfl, ho1, hb1⟩
         obtain ⟨ao1, cap1, rfl⟩ := owns_slice ho1
         have hB1 : Below w.heap.size w w1 := (((Below.refl _ w).alloc (Nat.le_refl _) _).drew).trans (hb1.mono (by simp))
         have hz1 := hB1.size
         have hbx : Boxed w1 w.heap.size 23 (.pointer none) := (hb1.block _ (by simp)).trans (Boxed.new w 23 _)
         have hvc0 := hbx.cell
         have hvf0 := hbx.frozen
         have hvc : ∀ o, (w1.alloc o).cell? ⟨w.heap.size, 0, none⟩ = some (.pointer none) := (fun o => (hbx.alloc o).cell)
         have hvf : ∀ o, (w1.alloc o).frozen? ⟨w.heap.size, 0, none⟩ = false := (fun o => (hbx.alloc o).frozen)
         skip))
  case' _ =>
    have tw := twinA (s := s) hB1 ho1 (Nat.le_refl _)
    clear hB1 hz1 hb1 ho1 hvc hvf
    revert tw
    rename_i hHeld
    clear hHeld
    generalize ((w1.alloc (.cells #[.slice ao1 s.med.length cap1, .slice none 0 0, .int .i64 0, .slice none 0 0, .int .i64 (s.ops : Int), .bool s.on] 63)).alloc (.cells #[.pointer (some ⟨w1.heap.size, 0, none⟩)] 23)) = w2
    generalize w1.heap.size + 1 = V
    generalize w1.heap.size = D
    intro tw
    clear w1
  rotate_left
  case' _ =>
    have tw := twinB (s := s) hB1 ho1 (Nat.le_refl _)
    clear hB1 hz1 hb1 ho1 hvc hvf
    revert tw
    rename_i hHeld
    clear hHeld
    generalize ((w1.alloc (.cells #[.pointer (some ⟨w1.heap.size + 1, 0, none⟩)] 23)).alloc (.cells #[.slice ao1 s.med.length cap1, .slice none 0 0, .int .i64 0, .slice none 0 0, .int .i64 (s.ops : Int), .bool s.on] 63)) = w2
    generalize w1.heap.size + 1 = D
    generalize w1.heap.size = V
    intro tw
    clear w1
  rotate_left
  case' _ =>
    have tw := twinC (s := s) hB1 hbx ho1 (by simp)
    clear hB1 hz1 hb1 ho1 hvc hvf hvc0 hvf0 hbx
    revert tw
    rename_i hHeld
    clear hHeld
    generalize ((w1.alloc (.cells #[.slice ao1 s.med.length cap1, .slice none 0 0, .int .i64 0, .slice none 0 0, .int .i64 (s.ops : Int), .bool s.on] 63)).setCell ⟨w.heap.size, 0, none⟩ (.pointer (some ⟨w1.heap.size, 0, none⟩))) = w2
    generalize w1.heap.size = D
    generalize w.heap.size = V
    intro tw
    clear w1
  all_goals
    have hgl := h.gl
    have hgD : g ≠ D := by have := tw.D1; omega
    have hgV : g ≠ V := by have := tw.V1; omega
    have hVD : V ≠ D := fun e => by
      have h1 := tw.vb
      have h2 := tw.dv
      rw [← e] at h2
      have h3 : w2.heap[V]? = _ := h1
      rw [h2] at h3
      simp at h3
    have kb := Keeps.of_below (S := fun _ => False) tw.bel
    have hS0 : w2.cell? ⟨V, 0, none⟩ = some (.pointer (some ⟨D, 0, none⟩)) ∧ w2.cell? ⟨g, 2, none⟩ = some (.int .i64 (s.left : Int)) ∧ w2.cell? ⟨g, 3, none⟩ = some (.slice kao s.picks.length kcap) := ⟨tw.vb.cell, (Kg2.out _ tw.bel).1, (Kg2.out _ tw.bel).2⟩
    have kg2 : ∀ W, Keeps (fun k => k = D) w2 W → (W.cell? ⟨V, 0, none⟩ = some (.pointer (some ⟨D, 0, none⟩)) ∧ W.cell? ⟨g, 2, none⟩ = some (.int .i64 (s.left : Int)) ∧ W.cell? ⟨g, 3, none⟩ = some (.slice kao s.picks.length kcap)) := fun W hb => ⟨hb.cell hS0.1 hVD, hb.cell hS0.2.1 hgD, hb.cell hS0.2.2 hgD⟩
    have KgD := hide kg2
    have Htw := hide tw
    have hkb := hk.mono tw.bel
    have Hkb := hide hkb
    clear kg2 hS0 kb tw hkb Kg2
    gi_wp2
    refine wpIn_wide.2 ?_
    go_region_held3 (fun w' => w'.cell? ⟨V, 0, none⟩ = some (.pointer (some ⟨D, 0, none⟩)) ∧ w'.cell? ⟨g, 2, none⟩ = some (.int .i64 (s.left : Int)) ∧ w'.cell? ⟨g, 3, none⟩ = some (.slice kao s.picks.length kcap))
      (first | exact KgD.out _ (Keeps.drew w2) | exact KgD.out _ k3 | exact KgD.out _ ((k3.trans (Keeps.setCell (S := fun k => k = D) _ rfl _)).trans (Keeps.setCell (S := fun k => k = D) _ rfl _)))
      (first
        | (go_at_call 42; refine (own_any _ s.picks w2.drew (Hkb.out.mono ((Below.refl _ _).drew)) hpkl).mono ?_; rintro e w3 ⟨v3, rfl, ho3, hb3⟩
           obtain ⟨ao3, cap3, rfl⟩ := owns_slice ho3
           have k3 : Keeps (fun k => k = D) w2 w3 := (Keeps.drew w2).trans (Keeps.of_below hb3)
           have hD3 : w3.heap[D]? = _ := (hb3.block D (show D < w2.heap.size from (Array.getElem?_eq_some_iff.1 Htw.out.dv).1)).trans Htw.out.dv
           have hd2 : w3.cell? ⟨D, 2, none⟩ = some (.int .i64 0) := (by simp [World.cell?, hD3])
           have hd3 : w3.cell? ⟨D, 3, none⟩ = some (.slice none 0 0) := (by simp [World.cell?, hD3])
           have hf2 : w3.frozen? ⟨D, 2, none⟩ = false := (by simp [World.frozen?, hD3])
           have hf3 : w3.frozen? ⟨D, 3, none⟩ = false := (by simp [World.frozen?, hD3])
           have HD3 := hide hD3
           clear hD3
           skip))
  all_goals
    rename_i hHeld
    clear hHeld
    have ta := Htw.out.armed (n := n) h.ok ((Below.refl _ w2).drew.trans hb3) ho3 hk.lt
    have hV1 := Htw.out.V1
    clear k3 hd2 hd3 hf2 hf3 HD3 hb3 ho3 KgD Hkb Htw
    revert ta
    generalize ((w3.setCell ⟨D, 2, none⟩ (.int .i64 (s.left : Int))).setCell ⟨D, 3, none⟩ (.slice ao3 s.picks.length cap3)) = w4
    intro ta
    obtain ⟨m1, F1, hDt, hO, hV, hB⟩ := ta
    have hp4 := pending_yes (h.mono hB) hpl
    clear w3
    gi_wp2
    refine ⟨trivial, (callsIn_wide.2 hp4).mono ?_⟩
    rintro e U ⟨f, rfl, ⟨bx, v, vs, rfl, hbx, hBx, hrow, hvl, hbs⟩, hbU⟩
    have hDU := hDt.mono hbU
    have hVU : Boxed U V 23 _ := (hbU.block _ hV.lt).trans hV
    have hBU : Below w.heap.size w U := hB.trans (hbU.mono hB.size)
    gi_wp2
  all_goals
    clear Kg hmade Hbm Hml hm
    have hz4 := hB.size
    have hFlt := h.Fl
    have hpe := h.ok.pend
    have hVlt := hVU.lt
    have hDlt := hDU.gl
    have hmlt := hDU.ml
    have hV4 := hV.lt
    have hD4 := hDt.gl
    have hm4 := hDt.ml
    have hF4 := hDt.Fl
    have hseq := pending1_any (fun k => k < U.heap.size ∧ ¬ (w.heap.size ≤ k ∧ k < w4.heap.size)) (fun k => w.heap.size ≤ k ∧ k < w4.heap.size) s.pend vs v bx _ U hBx hrow hvl (fun i hi hv => ⟨(hbs i hi hv).1, fun b hb e => by have := hFlt b ((hbs i hi hv).2 b hb); have e1 : w.heap.size ≤ b := e.1; omega⟩) (fun x hx => (hpe x hx).2.1) hpl (fun k hk hn => ⟨hk, hn⟩) (fun e => by have e2 : bx < w4.heap.size := e.2; omega) (fun b hb e => by have := (hrow.lt b hb).1; have e2 : b < w4.heap.size := e.2; omega)
    refine range_law3 (n := 3) (gf := 55) (lb := #[.pointer (some ⟨bx, 0, none⟩)]) rfl (enters_of Try.func55 (by kernel_rfl) rfl) hseq (Below.refl _ _) (fun k hk => hk.1) (fun _ => rfl)
      (fun pre W => Boxed W V 23 (.pointer (some ⟨D, 0, none⟩)) ∧ (TwinAt w.heap.size w4.heap.size (U.heap.size + 2 + 0) D m1 n s (pre.map pOf) W ∧ Below w.heap.size w W))
      (fun code pre W => False)
      (Stands.and (stands_boxed _ _ _ (.inl hVlt)) (Stands.and (stands_twin (fun pre => pre.map pOf) hbU.size hDlt hmlt) (stands_below _ _ (Nat.le_refl _) hBU.size)))
      (fun code => fun _ _ _ _ h _ _ => h)
      ⟨hVU, ⟨none, F1, hDU, fun k hk => ⟨hO k (.inr (.inr hk)), .inl (hF4 k hk)⟩⟩, hBU⟩
      (fun x W => { tmps := #[.pointer (some ⟨g, 0, none⟩), undef, .pointer none, .pointer (some ⟨V, 0, none⟩), .int .i64 (x.1 : Int), x.2.2, .pointer (some ⟨g, 0, none⟩), .bool true, .bool false, .pointer (some ⟨g, 0, none⟩), .pointer (some ⟨g, 0, none⟩), .pointer (some ⟨g, 0, none⟩), .slice (some ⟨m, 0, none⟩) s.med.length cap, .slice ao1 s.med.length cap1, .pointer (some ⟨g, 0, none⟩), .pointer (some ⟨g, 0, none⟩), .pointer (some ⟨g, 4, none⟩), .int .i64 (s.ops : Int), .pointer (some ⟨g, 0, none⟩), .pointer (some ⟨g, 0, none⟩), .pointer (some ⟨g, 5, none⟩), .bool s.on, .agg #[.slice ao1 s.med.length cap1, .slice none 0 0, .int .i64 0, .slice none 0 0, .int .i64 (s.ops : Int), .bool s.on], .pointer (some ⟨D, 0, none⟩), .pointer (some ⟨D, 0, none⟩), .pointer (some ⟨g, 0, none⟩), .pointer (some ⟨g, 0, none⟩), .pointer (some ⟨g, 2, none⟩), .pointer (some ⟨g, 2, none⟩), .int .i64 (s.left : Int), .pointer (some ⟨g, 0, none⟩), .pointer (some ⟨g, 0, none⟩), .pointer (some ⟨g, 2, none⟩), .pointer (some ⟨g, 3, none⟩), .slice kao s.picks.length kcap, .slice ao3 s.picks.length cap3, .agg #[.int .i64 (s.left : Int), .slice ao3 s.picks.length cap3], .pointer (some ⟨D, 0, none⟩), .pointer (some ⟨D, 2, none⟩), .pointer (some ⟨g, 0, none⟩), .func (.func 55) #[] #[.pointer (some ⟨bx, 0, none⟩)], .int .i64 (x.1 : Int), x.2.2, undef, undef, undef, undef, undef, undef, undef, undef, undef, undef, undef, undef, undef], defers := [] })
      (fun x W => W) (fun x W => Below.refl _ _)
      ?assign ?body ?done ?stop
    case assign =>
      intro l' x W T hT
      simp only [pEnc]
      gi_wp2
      exact hT
    case stop =>
      rintro code pre W hSp hF
      exact hF.elim
    case body =>
      rintro pre x U0 W hSp ⟨bV, ⟨p', F', hDk, hF'⟩, hBw⟩ hX hsU ⟨r, hr⟩ hzU hcU
      have hX1 : pNew (U.heap.size + 2 + 0) x W := by
        refine ⟨⟨hX.1.1, ?_⟩, hX.2⟩
        rcases hX.1.2 with hn | ⟨g, cap, cur, e, hb, hg, rest⟩
        · exact .inl hn
        · exact .inr ⟨g, cap, cur, e, hb, (hcU g (by omega)).trans hg, rest⟩
      have hzW : U.heap.size + 2 + 0 ≤ W.heap.size := by rw [hzU]; exact hsU
      have hmem : pOf x ∈ s.pend := hSp.subset (by simp)
      have hp1 := hpe _ hmem
      have hpl1 : pre.length + 1 ≤ 1000000 := by
        have := hSp.length_le
        simp at this; omega
      clear hseq hBx hrow hbs hX hcU hp4 hpe
      obtain ⟨xi, xl, xv⟩ := x
      obtain ⟨xao, xcap, hxv⟩ := owns_slice hX1.1
      dsimp only at hxv
      subst hxv
      have cV := bV.cell
      have SV : W.drew.cell? ⟨V, 0, none⟩ = some (.pointer (some ⟨D, 0, none⟩)) := cV
      obtain ⟨pv, pvs, c1, hWs⟩ := hDk.c1
      obtain ⟨pao, pcap, rfl⟩ := owns_slice hWs.row
      have SVa : (W.drew.alloc (.cells #[.int .i64 (xi : Int), .slice xao xl.length xcap] 78)).cell? ⟨V, 0, none⟩ = some (.pointer (some ⟨D, 0, none⟩)) := (bV.alloc (.cells #[.int .i64 (xi : Int), .slice xao xl.length xcap] 78)).cell
      have c1a : (W.drew.alloc (.cells #[.int .i64 (xi : Int), .slice xao xl.length xcap] 78)).cell? ⟨D, 1, none⟩ = some (.slice pao (pre.map pOf).length pcap) := (Keeps.alloc (S := fun _ => False) W.drew (.cells #[.int .i64 (xi : Int), .slice xao xl.length xcap] 78)).cell c1 id
      have c1b : (W.alloc (.cells #[.int .i64 (xi : Int), .slice xao xl.length xcap] 78)).cell? ⟨D, 1, none⟩ = some (.slice pao (pre.map pOf).length pcap) := c1a
      have f1a : (W.drew.alloc (.cells #[.int .i64 (xi : Int), .slice xao xl.length xcap] 78)).frozen? ⟨D, 1, none⟩ = false := ((Keeps.alloc (S := fun _ => False) W.drew (.cells #[.int .i64 (xi : Int), .slice xao xl.length xcap] 78)).frozen (a := ⟨D, 1, none⟩) (show D < W.drew.heap.size from hDk.gl) id).trans hDk.f1
      have row1 : (W.drew.alloc (.cells #[.int .i64 (xi : Int), .slice xao xl.length xcap] 78)).ownsRow 0 78 2 (.slice pao (pre.map pOf).length pcap) (pre.map pOf).length (cellsW (pre.map pOf) pvs) := hWs.row.drew.alloc (.cells #[.int .i64 (xi : Int), .slice xao xl.length xcap] 78)
      have hpD : some D ≠ (Value.slice pao (pre.map pOf).length pcap).ownBlock := fun e => hDk.Fg (hWs.pF D (by rw [← hWs.own]; exact e.symm))
      have hpV : some V ≠ (Value.slice pao (pre.map pOf).length pcap).ownBlock := (bV.not_row (by decide) hWs.row)
      have hDw : w.heap.size ≤ D := hO D (.inl rfl)
      have hmw : w.heap.size ≤ m1 := hO m1 (.inr (.inl rfl))
      obtain ⟨i0, hi, hz0, hz1, hz2⟩ := info_parts Try.info78
      gi_wp2
      refine wpIn_region_round (fun w' => w'.cell? ⟨V, 0, none⟩ = some (.pointer (some ⟨D, 0, none⟩))) (by kernel_rfl) (by kernel_rfl) ?_ ?_
      · rintro ⟨a', w', hh⟩
        exact hh
      · have hrr := fun (md : Region.Mode) => True
        clear hrr
        refine wpAnyH_take (i := 0) (v := .pointer (some ⟨D, 0, none⟩)) rfl (by kernel_rfl) (by kernel_rfl) (by kernel_rfl) (fun _ _ _ h => h) (Or.inl ⟨by rfl, fun w' hw => by have hw' : w'.cell? ⟨V, 0, none⟩ = some (.pointer (some ⟨D, 0, none⟩)) := hw; clear hw; go_simp⟩) SV ?_
        refine wpAnyH_take (i := 1) (v := .pointer (some ⟨D, 0, none⟩)) rfl (by kernel_rfl) (by kernel_rfl) (by kernel_rfl) (fun _ _ _ h => h) (Or.inl ⟨by rfl, fun w' hw => by have hw' : w'.cell? ⟨V, 0, none⟩ = some (.pointer (some ⟨D, 0, none⟩)) := hw; clear hw; go_simp⟩) SV ?_
        refine wpAnyH_take (i := 2) (v := .pointer (some ⟨D, 0, none⟩)) rfl (by kernel_rfl) (by kernel_rfl) (by kernel_rfl) (fun _ _ _ h => h) (Or.inl ⟨by rfl, fun w' hw => by have hw' : w'.cell? ⟨V, 0, none⟩ = some (.pointer (some ⟨D, 0, none⟩)) := hw; clear hw; go_simp⟩) SV ?_
        refine wpAnyH_take (i := 3) (v := .pointer (some ⟨D, 1, none⟩)) rfl (by kernel_rfl) (by kernel_rfl) (by kernel_rfl) (fun _ _ _ h => h) (Or.inl ⟨by rfl, fun w' hw => by have hw' : w'.cell? ⟨V, 0, none⟩ = some (.pointer (some ⟨D, 0, none⟩)) := hw; clear hw; go_simp⟩) SV ?_
        refine wpAnyH_take (i := 5) (v := .int .i64 (xi : Int)) rfl (by kernel_rfl) (by kernel_rfl) (by kernel_rfl) (fun _ _ _ h => h) (Or.inl ⟨by rfl, fun w' hw => by have hw' : w'.cell? ⟨V, 0, none⟩ = some (.pointer (some ⟨D, 0, none⟩)) := hw; clear hw; go_simp⟩) SV ?_
        refine wpAnyH_take (i := 6) (v := .slice xao xl.length xcap) rfl (by kernel_rfl) (by kernel_rfl) (by kernel_rfl) (fun _ _ _ h => h) (Or.inl ⟨by rfl, fun w' hw => by have hw' : w'.cell? ⟨V, 0, none⟩ = some (.pointer (some ⟨D, 0, none⟩)) := hw; clear hw; go_simp⟩) SV ?_
        refine wpAnyH_take (i := 7) (v := .agg #[.int .i64 (xi : Int), .slice xao xl.length xcap]) rfl (by kernel_rfl) (by kernel_rfl) (by kernel_rfl) (fun _ _ _ h => h) (Or.inl ⟨by rfl, fun w' hw => by have hw' : w'.cell? ⟨V, 0, none⟩ = some (.pointer (some ⟨D, 0, none⟩)) := hw; clear hw; go_simp⟩) SV ?_
        refine wpAnyH_ready (rs := [4, 8]) (by kernel_rfl) (by simp) ?_
        refine AllReadyH.cons rfl (fun K hK => ?_) (AllReadyH.cons rfl (fun K hK => ?_) AllReadyH.nil)
        · go_simp
          refine hK.out _ _ SV (fun _ => ?_)
          clear hK K
          refine wpAnyH_ready (rs := [8]) (by kernel_rfl) (by simp) ?_
          refine AllReadyH.cons rfl (fun K hK => ?_) AllReadyH.nil
          go_simp
          refine hK.out _ _ SVa (fun _ => ?_)
          clear hK K
          refine wpAnyH_ready (rs := [9]) (by kernel_rfl) (by simp) ?_
          refine AllReadyH.cons rfl (fun K hK => ?_) AllReadyH.nil
          refine step_append_at rfl (.tmp 47) (.tmp 51) 59 rfl 0 78 i0 (.agg #[.int .i64 0, .slice none 0 0]) 2 32 Try.underlying59 hi hz0 hz1 hz2 rfl (by decide) (.slice pao (pre.map pOf).length pcap) (pre.map pOf).length (cellsW (pre.map pOf) pvs) (by simp [Act.eval]) row1 ⟨W.heap.size, 0, none⟩ 1 1 [.int .i64 (xi : Int), .slice xao xl.length xcap] (by simp [Act.eval]) rfl (cell_two_new _ _ _ _) (by simp [Value.oneCell']) (by unfold maxLen; simp; omega) (by simp; omega) (by omega) ?_
          intro v2 w2 ho2 hg2 hkin2
          obtain ⟨g2, cap2, rfl⟩ := owns_succ ho2
          have SV2 : w2.cell? ⟨V, 0, none⟩ = some (.pointer (some ⟨D, 0, none⟩)) := hg2.cell SVa hpV
          have c2 : w2.cell? ⟨D, 1, none⟩ = some (.slice pao (pre.map pOf).length pcap) := hg2.cell c1a hpD
          have f2 : w2.frozen? ⟨D, 1, none⟩ = false := by rw [World.frozen?_of_block (w := W.drew.alloc (.cells #[.int .i64 (xi : Int), .slice xao xl.length xcap] 78)) (a := ⟨D, 1, none⟩) (hg2.block D (by simp; omega) hpD)]; exact f1a
          refine hK.out _ _ SV2 (fun _ => ?_)
          clear hK K
          refine wpAnyH_take (i := 10) (v := .pointer (some ⟨D, 0, none⟩)) rfl (by kernel_rfl) (by kernel_rfl) (by kernel_rfl) (fun _ _ _ h => h) (Or.inl ⟨by rfl, fun w' hw => by have hw' : w'.cell? ⟨V, 0, none⟩ = some (.pointer (some ⟨D, 0, none⟩)) := hw; clear hw; go_simp⟩) SV2 ?_
          refine wpAnyH_take (i := 11) (v := .pointer (some ⟨D, 1, none⟩)) rfl (by kernel_rfl) (by kernel_rfl) (by kernel_rfl) (fun _ _ _ h => h) (Or.inl ⟨by rfl, fun w' hw => by have hw' : w'.cell? ⟨V, 0, none⟩ = some (.pointer (some ⟨D, 0, none⟩)) := hw; clear hw; go_simp⟩) SV2 ?_
          refine wpAnyH_ready (rs := [12]) (by kernel_rfl) (by simp) ?_
          refine AllReadyH.cons rfl (fun K hK => ?_) AllReadyH.nil
          go_simp
          refine hK.out _ _ (by rw [World.cell?_setCell_far _ _ _ _ (Ne.symm hVD)]; exact SV2) (fun _ => ?_)
          refine wpAnyH_done (by kernel_rfl) ?_ _
          clear hK K
          obtain ⟨t1, t2, t3, t4, t5⟩ := twin_round hDk hF' hbU.size (Nat.le_add_right _ 2) hzW hD4 hm4 hDw hmw hVD hBU.size bV hBw c1 hWs hX1.1 hX1.2 hp1.2.1 hp1.1 ho2 hg2 hkin2
          rw [show (pre.map pOf).length + 1 = pre.length + 1 by simp] at t1 t2 t3 t4 t5
          refine ⟨t1, t2, t3, ?_, t5⟩
          have e3 : (pre ++ [(xi, xl, Value.slice xao xl.length xcap)]).map pOf = pre.map pOf ++ [(xi, xl)] := by simp [pOf]
          show TwinAt _ _ _ _ _ _ _ ((pre ++ [(xi, xl, Value.slice xao xl.length xcap)]).map pOf) _
          rw [e3]
          exact t4
        · go_simp
          refine hK.out _ _ SVa (fun _ => ?_)
          clear hK K
          refine wpAnyH_ready (rs := [4]) (by kernel_rfl) (by simp) ?_
          refine AllReadyH.cons rfl (fun K hK => ?_) AllReadyH.nil
          go_simp
          refine hK.out _ _ SVa (fun _ => ?_)
          clear hK K
          refine wpAnyH_ready (rs := [9]) (by kernel_rfl) (by simp) ?_
          refine AllReadyH.cons rfl (fun K hK => ?_) AllReadyH.nil
          refine step_append_at rfl (.tmp 47) (.tmp 51) 59 rfl 0 78 i0 (.agg #[.int .i64 0, .slice none 0 0]) 2 32 Try.underlying59 hi hz0 hz1 hz2 rfl (by decide) (.slice pao (pre.map pOf).length pcap) (pre.map pOf).length (cellsW (pre.map pOf) pvs) (by simp [Act.eval]) row1 ⟨W.heap.size, 0, none⟩ 1 1 [.int .i64 (xi : Int), .slice xao xl.length xcap] (by simp [Act.eval]) rfl (cell_two_new _ _ _ _) (by simp [Value.oneCell']) (by unfold maxLen; simp; omega) (by simp; omega) (by omega) ?_
          intro v2 w2 ho2 hg2 hkin2
          obtain ⟨g2, cap2, rfl⟩ := owns_succ ho2
          have SV2 : w2.cell? ⟨V, 0, none⟩ = some (.pointer (some ⟨D, 0, none⟩)) := hg2.cell SVa hpV
          have c2 : w2.cell? ⟨D, 1, none⟩ = some (.slice pao (pre.map pOf).length pcap) := hg2.cell c1a hpD
          have f2 : w2.frozen? ⟨D, 1, none⟩ = false := by rw [World.frozen?_of_block (w := W.drew.alloc (.cells #[.int .i64 (xi : Int), .slice xao xl.length xcap] 78)) (a := ⟨D, 1, none⟩) (hg2.block D (by simp; omega) hpD)]; exact f1a
          refine hK.out _ _ SV2 (fun _ => ?_)
          clear hK K
          refine wpAnyH_take (i := 10) (v := .pointer (some ⟨D, 0, none⟩)) rfl (by kernel_rfl) (by kernel_rfl) (by kernel_rfl) (fun _ _ _ h => h) (Or.inl ⟨by rfl, fun w' hw => by have hw' : w'.cell? ⟨V, 0, none⟩ = some (.pointer (some ⟨D, 0, none⟩)) := hw; clear hw; go_simp⟩) SV2 ?_
          refine wpAnyH_take (i := 11) (v := .pointer (some ⟨D, 1, none⟩)) rfl (by kernel_rfl) (by kernel_rfl) (by kernel_rfl) (fun _ _ _ h => h) (Or.inl ⟨by rfl, fun w' hw => by have hw' : w'.cell? ⟨V, 0, none⟩ = some (.pointer (some ⟨D, 0, none⟩)) := hw; clear hw; go_simp⟩) SV2 ?_
          refine wpAnyH_ready (rs := [12]) (by kernel_rfl) (by simp) ?_
          refine AllReadyH.cons rfl (fun K hK => ?_) AllReadyH.nil
          go_simp
          refine hK.out _ _ (by rw [World.cell?_setCell_far _ _ _ _ (Ne.symm hVD)]; exact SV2) (fun _ => ?_)
          refine wpAnyH_done (by kernel_rfl) ?_ _
          clear hK K
          obtain ⟨t1, t2, t3, t4, t5⟩ := twin_round hDk hF' hbU.size (Nat.le_add_right _ 2) hzW hD4 hm4 hDw hmw hVD hBU.size bV hBw c1 hWs hX1.1 hX1.2 hp1.2.1 hp1.1 ho2 hg2 hkin2
          rw [show (pre.map pOf).length + 1 = pre.length + 1 by simp] at t1 t2 t3 t4 t5
          refine ⟨t1, t2, t3, ?_, t5⟩
          have e3 : (pre ++ [(xi, xl, Value.slice xao xl.length xcap)]).map pOf = pre.map pOf ++ [(xi, xl)] := by simp [pOf]
          show TwinAt _ _ _ _ _ _ _ ((pre ++ [(xi, xl, Value.slice xao xl.length xcap)]).map pOf) _
          rw [e3]
          exact t4
    case done =>
      rintro xs W hxs ⟨bV, ⟨p', F', hDk, hF'⟩, hBw⟩ hsU hK
      clear hseq
      have cV := bV.cell
      have hps : xs.map pOf = s.pend := hxs
      have hDk' : Dk W D m1 p' F' n s := by rw [hps] at hDk; exact hDk
      have HD := hide hDk'
      have HF := hide hF'
      clear hDk hDk' hps hF' hBx hrow hbs
      gi_wp2
      have kp : Keeps (fun k => k = U.heap.size) W (W.putObj U.heap.size (.deferred none)) := ⟨rfl, rfl, rfl, by rw [World.putObj_size]; exact Nat.le_refl _, fun k _ hk => World.putObj_heap_other hk⟩
      refine ⟨by simp, .inl ⟨_, _, rfl, run_takeDeferred hK, ?_⟩⟩
      refine ⟨_, results_tmp rfl _ _ _, D, m1, p', F', rfl, HD.out.keeps kp (fun e => by have e' : D = U.heap.size := e; omega) (fun e => by have e' : m1 = U.heap.size := e; omega) (fun k hk e => ?_), ?_, hBw.trans (belowK_b (w := w) (Nat.le_refl _) W _ _ _ (by have := hBU.size; omega) hK rfl rfl)⟩
      · have e' : k = U.heap.size := e
        have := hbU.size
        rcases (HF.out k hk).2 with h1 | ⟨h1, _⟩ <;> omega
      · rintro k (rfl | rfl | hk)
        · exact hO _ (.inl rfl)
        · exact hO _ (.inr (.inl rfl))
        · exact (HF.out k hk).1

end Go.Proofs.Ytjcobealnjkkcaa
