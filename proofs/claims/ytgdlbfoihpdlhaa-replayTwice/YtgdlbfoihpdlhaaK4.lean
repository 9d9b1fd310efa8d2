/- Contract: replay.Redo. -/
import Derived.Test.YtgdlbfoihpdlhaaK2
import Derived.Test.YtgdlbfoihpdlhaaP2
import Derived.Deep.RegionLaw
import Derived.Deep.RegionHeld3
set_option linter.unusedSimpArgs false
set_option linter.unusedVariables false
namespace Go.Proofs.Ytgdlbfoihpdlhaa
open Go.RowKit Go.Attic

theorem owns_up {w : World} {base base' : Nat} {e : TypeId} {size g n cap : Nat} {xs : List Value} (h : w.ownsRow base e size (.slice (some ⟨g, 0, none⟩) n cap) n xs) (hg : base' ≤ g) : w.ownsRow base' e size (.slice (some ⟨g, 0, none⟩) n cap) n xs := by
  refine ⟨h.1, ?_⟩
  rcases h.2 with ⟨hn, _⟩ | ⟨g', cap', cur, e, hb, rest⟩
  · cases hn
  · injection e with e1 e2 e3
    injection e1 with e1
    injection e1 with e1
    subst e1 e3
    exact .inr ⟨g, cap, cur, rfl, hg, rest⟩

theorem splice_over (p l : List Nat) (o : Nat) : splice (cellsB p) o (cellsB l) = cellsB (over p o l) := by
  simp [splice, over, cellsB, List.map_append, List.map_take, List.map_drop]

set_option maxRecDepth 100000 in
set_option maxHeartbeats 400000 in
theorem isPage_any (ao : Option Addr) (n cap : Nat) (w : World) : Calls Try.prog 37 #[.slice ao n cap] w fun e w' => e = .returned (.bool (decide (n = 256))) ∧ w = w' := by
  by_cases h : n = 256
  · subst h
    go_enter Try.func37, Try.ntmps37
    go_wp2
    go_ret
    exact ⟨rfl, rfl⟩
  · have hb : ((n : Int) == 256) = false := by simp; omega
    rw [decide_eq_false h]
    go_enter Try.func37, Try.ntmps37
    go_wp2
    go_ret
    exact ⟨by simp [hb], rfl⟩

theorem all_snoc {rs : List Rc} {k : Nat} (hk : k < rs.length) (h : (rs.take k).all okb = true) (hx : okb rs[k] = true) : (rs.take (k + 1)).all okb = true := by
  rw [List.take_succ_eq_append_getElem hk, List.all_append, h]
  simpa using hx
theorem all_not {rs : List Rc} {k : Nat} (hk : k < rs.length) (hx : okb rs[k] = false) : rs.all okb = false := by
  rw [List.all_eq_false]
  exact ⟨rs[k], List.getElem_mem hk, by simp [hx]⟩
theorem Try.sizeB : (Try.prog.info? 5).map (·.size) = some 1 := by kernel_rfl

set_option maxRecDepth 100000 in
set_option maxHeartbeats 2000000 in
theorem redo_any {w : World} {F : Nat → Prop} {pv v : Value} {p : List Nat} {rs : List Rc} (block : Int) (hp : Bs w pv p) (hpl : p.length ≤ 140737488355328) (h : Rs w F v rs) (hlen : rs.length ≤ 140737488355328) (hls : ∀ r ∈ rs, r.l.length ≤ 140737488355328) :
    Calls Try.prog 19 #[pv, .int .i64 block, v] w (NewBsE w (redoR p block rs).1 (redoR p block rs).2) := by
  have hpc := fun w => fun hw => clone_any pv p w hw hpl
  obtain ⟨pa, pc, rfl, -⟩ := id hp
  obtain ⟨ao, cap, e, hcap⟩ := h.slice
  subst e
  have hpage := fun w => isPage_any pa p.length pc w
  by_cases hp6 : p.length = 256
  case neg =>
    have e : redoR p block rs = ([], 1) := by simp [redoR, hp6]
    rw [e]
    rw [decide_eq_false hp6] at hpage
    clear hpc
    go_enter Try.func19, Try.ntmps19
    go_wp2_with fail
    refine (hpage _).mono ?_
    rintro e w' ⟨rfl, rfl⟩
    go_wp2_with fail
    refine bodyPost_ret (v := .tuple #[.slice none 0 0, .int .i64 1]) (by simp [results, Try.results19, go_sem]) rfl ?_
    exact ⟨_, rfl, World.ownsRow_nil _ _ _ _, Below.refl _ _⟩
  rw [decide_eq_true hp6] at hpage
  have eG : redoR p block rs = (if rs.all okb = true then (redoL block p rs, 0) else ([], 60)) := by simp [redoR, hp6]
  obtain ⟨G, hG⟩ : ∃ G, redoR p block rs = G := ⟨_, rfl⟩
  rw [hG] at eG ⊢
  obtain ⟨L, hL⟩ : ∃ L, rs.length = L := ⟨_, rfl⟩
  rw [hL] at hlen hcap ⊢
  have HL := hide hL
  have HG := hide hG
  have EG := hide eG
  have H := hide h
  have Hls := hide hls
  have Hp := hide hp
  have Hp6 := hide hp6
  clear h hL hls hG eG hp hp6
  go_enter Try.func19, Try.ntmps19
  go_wp2_with fail
  refine (hpage _).mono ?_
  rintro e w' ⟨rfl, rfl⟩
  go_wp2_with fail
  refine (hpc w Hp.out).mono ?_
  rintro e w1 ⟨v1, rfl, ho1, hb1⟩
  clear hpage hpc
  obtain ⟨m, cm, rfl, hm⟩ : ∃ m cm, v1 = .slice (some ⟨m, 0, none⟩) p.length cm ∧ w.heap.size ≤ m := by
    obtain ⟨ao1, cap1, e, _, hg⟩ := owns_form ho1
    obtain ⟨g, rfl, hgb⟩ := hg (by have := Hp6.out; omega)
    exact ⟨g, cap1, e, hgb⟩
  rw [Hp6.out] at ho1 ⊢
  have hlt := Hp.out.lt
  have Ho1 := hide ho1
  clear ho1
  go_wp2_with fail
  go_loopw [19] (fun iv wr => ∃ k : Nat, k ≤ L ∧ iv = .int .i64 (k : Int) ∧ (rs.take k).all okb = true ∧ wr.ownsRow w.heap.size 5 1 (.slice (some ⟨m, 0, none⟩) 256 cm) 256 (cellsB (redoL block p (rs.take k))) ∧ Below w.heap.size w wr) (fun iv _ => L - (intOf iv).toNat)
  case atStart => exact ⟨0, Nat.zero_le _, rfl, by simp, by simpa [redoL] using Ho1.out, hb1⟩
  case round =>
    obtain ⟨k, hk, rfl, hall, how, hbr⟩ := hrel
    by_cases hkL : k < L
    · have hkl : k < rs.length := by have := HL.out; omega
      obtain ⟨-, b1, o1, u1, rfl, -, hat, hub, -⟩ := (H.out.mono hbr).at k hkl
      have hll := Hls.out _ (List.getElem_mem hkl)
      have hsn := fun h => all_snoc hkl hall h
      have hno := fun h => all_not (k := k) hkl h
      have hre : redoL block p (rs.take (k + 1)) = step1 block (redoL block p (rs.take k)) rs[k] := by rw [List.take_succ_eq_append_getElem hkl, redoL_snoc]
      have hql := redoL_length (block := block) (rs.take k) (fun r hr => List.all_eq_true.1 hall r hr) Hp6.out
      generalize rs[k] = x at *
      generalize redoL block p (rs.take k) = q at *
      obtain ⟨ua, uc, rfl, -⟩ := id hub
      have x0 := hat.c0
      have x1 := hat.c1
      have x2 := hat.c2
      have x3 := hat.c3
      have x4 := hat.c4
      obtain ⟨wa, hwa⟩ : ∃ wa, wr.alloc (.cells #[.int .i64 x.k, .int .i64 x.b, .int .i64 x.o, .slice ua x.l.length uc, .int .i64 x.m] 48) = wa := ⟨_, rfl⟩
      have hRa : RecAt wa wr.heap.size x.k x.b x.o (.slice ua x.l.length uc) x.m := by rw [← hwa]; exact RecAt.new wr _ _ _ _ _
      have hba : Below w.heap.size w wa := by rw [← hwa]; exact hbr.alloc (by have := hbr.size; omega) _
      have hb0 : Below wr.heap.size wr wa := by rw [← hwa]; exact (Below.refl _ _).alloc (Nat.le_refl _) _
      have howa := owns_below how hb0 (Nat.le_refl _)
      have huba := hub.mono hb0
      have Hat := hide hat
      have Hub := hide hub
      have Hre := hide hre
      have Hql := hide hql
      have Hall := hide hall
      have How := hide how
      clear hat hub hre hql hall how
      obtain ⟨r0, r1, r2, r3, r4⟩ := hRa.held
      go_wp2_with fail
      refine (check_any _ _ _ _ _ _ _ wa hll).mono ?_
      rintro e w2 ⟨rfl, hb2⟩
      have hRa2 := hRa.mono hb2
      have hba2 := hba.trans (hb2.mono hba.size)
      have how2 := owns_below howa hb2 (Nat.le_refl _)
      have hub2 := huba.mono hb2
      obtain ⟨q0, q1, q2, q3, q4⟩ := hRa2.held
      have HRa2 := hide hRa2
      have How2 := hide how2
      have Hub2 := hide hub2
      clear r0 r1 r2 r3 r4 hRa hRa2 howa hwa how2 hub2 huba
      cases hok : okb x with
      | false =>
        rw [okb_no hok]
        have hG2 : G = ([], 60) := by rw [EG.out, hno hok]; rfl
        have HG2 := hide hG2
        clear hG2 hno hsn
        go_wp2_with fail
        refine bodyPost_ret (v := .tuple #[.slice none 0 0, .int .i64 60]) (by simp [results, Try.results19, go_sem]) rfl ?_
        rw [HG2.out]
        exact ⟨_, rfl, World.ownsRow_nil _ _ _ _, hba2⟩
      | true =>
        rw [okb_chk hok]
        have hsn2 := hsn hok
        have Hsn := hide hsn2
        have hfit := fun h => ok_fits hok h
        clear hsn hno hsn2
        by_cases hkb : x.k = 1 ∧ x.b = block
        · obtain ⟨hk1, hk2⟩ := hkb
          obtain ⟨ho0, hof, hl1, hl44, -⟩ := hfit hk1
          obtain ⟨o, ho⟩ := Int.eq_ofNat_of_zero_le ho0
          have e1 : x.o.toNat = o := by omega
          rw [e1] at hof
          have hst : step1 block q x = over q o x.l := by rw [step1, if_pos ⟨hk1, hk2⟩, e1]
          have hqo : (x.l).length ≤ 256 - o := by omega
          obtain ⟨vb, voff, rfl, hsrc0⟩ : ∃ vb voff, ua = some ⟨vb, voff, none⟩ ∧ True := by
            obtain ⟨ao', cap', e, _, _, _, hc⟩ := Hub2.out
            injection e with e1
            subst e1
            obtain ⟨b, off, e, _⟩ := hc (by omega)
            exact ⟨b, off, e, trivial⟩
          have hsrc := (Hub2.out.drew).cells ⟨vb, voff, none⟩ rfl
          have hcm : 256 ≤ cm := by
            obtain ⟨_, _, e, h, _⟩ := owns_form How2.out
            injection e with e1 e2 e3
            omega
          have hst2 : redoL block p (rs.take (k + 1)) = over q o x.l := by rw [Hre.out, hst]
          have Hst := hide hst2
          have How3 := hide (owns_base (owns_below How2.out (below_drewN (Below.refl w2.heap.size w2) 1) (Nat.le_refl _)) (Nat.zero_le _))
          rw [ho] at q2
          have Hof := hide hof
          clear hst hst2 hfit e1
          have hmin : (cellsB x.l).length = Nat.min x.l.length (256 - o) := by rw [cellsB_length]; exact (Nat.min_eq_left hqo).symm
          have hfit2 : o + (cellsB x.l).length ≤ 256 := by rw [cellsB_length]; exact Hof.out
          have hml : m < wr.heap.size := by have := owns_lt' How.out m rfl; exact this
          have hoi : (o : Int) ≤ 256 := by omega
          have hoi0 : (0 : Int) ≤ (o : Int) := by omega
          have hco : ¬ cm = o := by omega
          have hci : (256 : Int) ≤ (cm : Int) := by omega
          have Hmin := hide hmin
          have Hfit2 := hide hfit2
          clear hmin hfit2
          go_wp2_with fail
          go_region_held3 (fun w' => w'.cell? ⟨wr.heap.size, 2, none⟩ = some (.int .i64 (o : Int)) ∧ w'.cell? ⟨wr.heap.size, 3, none⟩ = some (.slice (some ⟨vb, voff, none⟩) x.l.length uc)) (first | exact ⟨q2, q3⟩ | exact ⟨kw3.cell (a := ⟨wr.heap.size, 2, none⟩) q2 (by simp; omega), kw3.cell (a := ⟨wr.heap.size, 3, none⟩) q3 (by simp; omega)⟩)
            (first | (refine step_copy_own rfl (.tmp 40) (.tmp 42) 37 37 rfl 5 Try.underlying37 Try.sizeB m o (256 - o) (cm - o) ⟨vb, voff, none⟩ x.l.length uc rfl rfl 256 cm _ How3.out (cellsB x.l) Hmin.out hsrc Hfit2.out (cellsB_oneCell _) ?_; intro w3 ow3 kw3; rw [cellsB_length]))
          rename_i hHeld
          clear hHeld
          rw [splice_over] at ow3
          have hbz := hba2.size
          have hb3 : Below w.heap.size w w3 := hba2.drew.trans (kw3.below (B := w.heap.size) (fun j hj => by have e : j = m := hj; omega) hba2.size)
          have Hw3 := hide (owns_up ow3 hm)
          clear ow3 hsrc
          go_wp2_with fail
          go_roundw
          case rel => exact ⟨k + 1, by omega, by go_num, Hsn.out, by rw [Hst.out]; exact Hw3.out, hb3⟩
          case measure => simp [intOf]; omega
        · have hst : step1 block q x = q := if_neg hkb
          have hsame : redoL block p (rs.take (k + 1)) = q := by rw [Hre.out, hst]
          have Hs := hide hsame
          clear hst hsame hfit
          by_cases hk1 : x.k = 1
          · have hk2 : ¬ x.b = block := fun h => hkb ⟨hk1, h⟩
            go_wp2_with fail
            go_roundw
            case rel => exact ⟨k + 1, by omega, by go_num, Hsn.out, by rw [Hs.out]; exact How2.out, hba2⟩
            case measure => simp [intOf]; omega
          · go_wp2_with fail
            go_roundw
            case rel => exact ⟨k + 1, by omega, by go_num, Hsn.out, by rw [Hs.out]; exact How2.out, hba2⟩
            case measure => simp [intOf]; omega
    · obtain rfl : k = L := by omega
      have e := HL.out
      rw [List.take_of_length_le (by omega)] at hall how
      have hG2 : G = (redoL block p rs, 0) := by rw [EG.out, hall]; rfl
      have HG2 := hide hG2
      have hl6 := redoL_length (block := block) rs (fun r hr => List.all_eq_true.1 hall r hr) Hp6.out
      clear hG2 hall
      have How := hide how
      clear how
      go_wp2_with fail
      refine bodyPost_ret (v := .tuple #[.slice (some ⟨m, 0, none⟩) 256 cm, .int .i64 0]) (by simp [results, Try.results19, go_sem]) rfl ?_
      rw [HG2.out]
      exact ⟨_, rfl, by rw [hl6]; exact How.out, hbr⟩

end Go.Proofs.Ytgdlbfoihpdlhaa
