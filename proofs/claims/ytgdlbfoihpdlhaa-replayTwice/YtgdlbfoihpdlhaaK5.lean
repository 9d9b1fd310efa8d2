/- Contract: the document's Redo. -/
import Derived.Test.YtgdlbfoihpdlhaaK4
set_option linter.unusedSimpArgs false
set_option linter.unusedVariables false
namespace Go.Proofs.Ytgdlbfoihpdlhaa
open Go.RowKit Go.Attic

/-- A page with the first bytes of a row laid over it. -/
theorem over_more {q l : List Nat} {o j : Nat} (hj : j < l.length) (hf : o + l.length ≤ q.length) : (over q o (l.take j)).set (o + j) (l.getD j 0) = over q o (l.take (j + 1)) := by
  have h1 : (over q o (l.take j)).length = q.length := over_length (by simp; omega)
  have h2 : (over q o (l.take (j + 1))).length = q.length := over_length (by simp; omega)
  refine getD_ext (by rw [List.length_set, h1, h2]) fun i hi => ?_
  rw [over_at (by simp; omega)]
  simp only [List.getD_eq_getElem?_getD, List.getElem?_set, h1]
  by_cases he : o + j = i
  · subst he
    rw [if_pos rfl, if_pos (by omega), if_pos (by simp; omega)]
    rw [show o + j - o = j by omega, List.getElem?_take_of_lt (by omega)]
    rfl
  · rw [if_neg he]
    have e := over_at (p := q) (l := l.take j) (o := o) (by simp; omega) i
    simp only [List.getD_eq_getElem?_getD] at e
    rw [e]
    simp only [List.length_take]
    by_cases hin : o ≤ i ∧ i < o + min j l.length
    · rw [if_pos hin, if_pos (by omega), List.getElem?_take_of_lt (by omega), List.getElem?_take_of_lt (by omega)]
    · rw [if_neg hin, if_neg (by omega)]

theorem owns_set {w : World} {base : Nat} {n cap g : Nat} {l : List Nat} (h : w.ownsRow base 5 1 (.slice (some ⟨g, 0, none⟩) n cap) n (cellsB l)) (i x : Nat) :
    (w.setCell ⟨g, i, none⟩ (.int .u8 (x : Int))).ownsRow base 5 1 (.slice (some ⟨g, 0, none⟩) n cap) n (cellsB (l.set i x)) := by
  have := (h.stored i (.int .u8 (x : Int))).1
  rw [show cellsB (l.set i x) = (cellsB l).set i (.int .u8 (x : Int)) by simp only [cellsB, List.map_set]]
  exact this
theorem owns_cell {w : World} {base : Nat} {n cap g : Nat} {l : List Nat} (h : w.ownsRow base 5 1 (.slice (some ⟨g, 0, none⟩) n cap) n (cellsB l)) (hn : n = l.length) (k : Nat) (hk : k < l.length) :
    w.cell? ⟨g, k, none⟩ = some (.int .u8 ((l.getD k 0 : Nat) : Int)) := by
  rw [h.cellAt k (by omega)]
  simp [cellsB, List.getD, hk]

set_option maxRecDepth 100000 in
set_option maxHeartbeats 2000000 in
theorem rredo_any {w : World} {F : Nat → Prop} {pv v : Value} {p : List Nat} {rs : List Rc} (block : Int) (hp : Bs w pv p) (hpl : p.length ≤ 140737488355328) (h : Rs w F v rs) (hlen : rs.length ≤ 140737488355328) (hls : ∀ r ∈ rs, r.l.length ≤ 140737488355328) :
    Calls Try.prog 20 #[pv, .int .i64 block, v] w (NewBsE w (redoR p block rs).1 (redoR p block rs).2) := by
  obtain ⟨i0, hi, hz0, hz1, hz2⟩ := info_parts Try.info5
  obtain ⟨pa, pc, rfl, -⟩ := id hp
  obtain ⟨ao, cap, e, hcap⟩ := h.slice
  subst e
  by_cases hp6 : p.length = 256
  case neg =>
    have e : redoR p block rs = ([], 1) := by simp [redoR, hp6]
    rw [e]
    have hb : ((p.length : Int) == 256) = false := by simp; omega
    go_enter Try.func20, Try.ntmps20
    go_wp2_with fail
    refine bodyPost_ret (v := .tuple #[.slice none 0 0, .int .i64 1]) (by simp [results, Try.results20, go_sem]) rfl ?_
    exact ⟨_, rfl, World.ownsRow_nil _ _ _ _, Below.refl _ _⟩
  have eG : redoR p block rs = (if rs.all okb = true then (redoL block p rs, 0) else ([], 60)) := by simp [redoR, hp6]
  obtain ⟨G, hG⟩ : ∃ G, redoR p block rs = G := ⟨_, rfl⟩
  rw [hG] at eG ⊢
  obtain ⟨L, hL⟩ : ∃ L, rs.length = L := ⟨_, rfl⟩
  rw [hL] at hlen hcap ⊢
  have HL := hide hL
  have HG := hide hG
  have EG := hide eG
  have H := hide h
  have Hls := hide hls
  have Hp := hide hp
  have Hp6 := hide hp6
  rw [hp6]
  clear h hL hls hG eG hp hp6
  go_enter Try.func20, Try.ntmps20
  go_wp2_with fail
  go_loopw [8] (fun iv wr => ∃ k : Nat, k ≤ L ∧ iv = .int .i64 (k : Int) ∧ (rs.take k).all okb = true ∧ Below w.heap.size w wr) (fun iv _ => L - (intOf iv).toNat)
  case atStart => exact ⟨0, Nat.zero_le _, rfl, by simp, Below.refl _ _⟩
  case round =>
    obtain ⟨k, hk, rfl, hall, hbr⟩ := hrel
    by_cases hkL : k < L
    · have hkl : k < rs.length := by have := HL.out; omega
      obtain ⟨-, b1, o1, u1, rfl, -, hat, hub, -⟩ := (H.out.mono hbr).at k hkl
      have hll := Hls.out _ (List.getElem_mem hkl)
      have hsn := fun h => all_snoc hkl hall h
      have hno := fun h => all_not (k := k) hkl h
      generalize rs[k] = x at *
      obtain ⟨ua, uc, rfl, -⟩ := id hub
      have x0 := hat.c0
      have x1 := hat.c1
      have x2 := hat.c2
      have x3 := hat.c3
      have x4 := hat.c4
      have Hub := hide hub
      have Hall := hide hall
      clear hat hub hall
      go_wp2_with fail
      refine (rcheck_any _ _ _ _ _ _ _ wr hll).mono ?_
      rintro e w2 ⟨rfl, hb2⟩
      have hba2 := hbr.trans (hb2.mono hbr.size)
      cases hok : okb x with
      | false =>
        rw [okb_no hok]
        have hG2 : G = ([], 60) := by rw [EG.out, hno hok]; rfl
        have HG2 := hide hG2
        clear hG2 hno hsn
        go_wp2_with fail
        refine bodyPost_ret (v := .tuple #[.slice none 0 0, .int .i64 60]) (by simp [results, Try.results20, go_sem]) rfl ?_
        rw [HG2.out]
        exact ⟨_, rfl, World.ownsRow_nil _ _ _ _, hba2⟩
      | true =>
        rw [okb_chk hok]
        have hsn2 := hsn hok
        have Hsn := hide hsn2
        clear hsn hno hsn2
        go_wp2_with fail
        go_roundw
        case rel => exact ⟨k + 1, by omega, by go_num, Hsn.out, hba2⟩
        case measure => simp [intOf]; omega
    · obtain rfl : k = L := by omega
      have e := HL.out
      rw [List.take_of_length_le (by omega)] at hall
      have hG2 : G = (redoL block p rs, 0) := by rw [EG.out, hall]; rfl
      have HG2 := hide hG2
      have hpr := Hp.out.mono hbr
      rw [Hp6.out] at hpr
      have Hall := hide hall
      clear hG2 hall
      have hbz := hbr.size
      go_wp2_with (at_builtin; refine wpList_append_bs _ rfl (.const (.slice none 0 0)) (.tmp 27) 37 rfl wr.heap.size 5 i0 (.int .u8 0) Try.underlying37 hi hz0 hz1 hz2 rfl _ 0 [] rfl (World.ownsRow_nil _ _ _ _) _ p rfl hpr (by omega) (Nat.le_refl _) ?_; intro v1 w1 ho1 hg1; rw [Nat.zero_add, List.nil_append] at ho1)
      have hb1 : Below wr.heap.size wr w1 := (Below.refl _ _).grown hg1 (Nat.le_refl _) (by intro k hk; cases hk)
      obtain ⟨m, cm, rfl, hm⟩ : ∃ m cm, v1 = .slice (some ⟨m, 0, none⟩) 256 cm ∧ wr.heap.size ≤ m := by
        obtain ⟨ao1, cap1, e, _, hg⟩ := owns_form ho1
        obtain ⟨g, rfl, hgb⟩ := hg (by have := Hp6.out; omega)
        exact ⟨g, cap1, by rw [e, Hp6.out], hgb⟩
      rw [Hp6.out] at ho1
      have hbw : Below w.heap.size w w1 := hbr.trans (hb1.mono hbr.size)
      have Ho1 := hide ho1
      clear ho1 hg1 hpr
      go_loopw [10] (fun iv wr => ∃ i : Nat, i ≤ k ∧ iv = .int .i64 (i : Int) ∧ wr.ownsRow w.heap.size 5 1 (.slice (some ⟨m, 0, none⟩) 256 cm) 256 (cellsB (redoL block p (rs.take i))) ∧ Below w.heap.size w wr) (fun iv _ => k - (intOf iv).toNat)
      case atStart => exact ⟨0, Nat.zero_le _, rfl, by simpa [redoL] using owns_up Ho1.out (by omega), hbw⟩
      case round =>
        obtain ⟨i, hik, rfl, how, hbi⟩ := hrel
        by_cases hiL : i < k
        · have hkl : i < rs.length := by omega
          obtain ⟨-, b1, o1, u1, rfl, -, hat0, -, -⟩ := H.out.at i hkl
          have hb1l : b1 < w.heap.size := by have := World.block_lt_of_cell? w _ hat0.c0; simpa using this
          obtain ⟨-, b1', o1', u1, e1, -, hat, hub, -⟩ := (H.out.mono hbi).at i hkl
          injection e1 with e1
          injection e1 with e1 e2
          subst e1 e2
          obtain ⟨-, b1', o1', u1', e1, -, hat', hub0, -⟩ := H.out.at i hkl
          injection e1 with e1
          injection e1 with e1 e2
          subst e1 e2
          obtain rfl : u1 = u1' := by
            have a1 := hat.c3
            have a2 := (Keeps.of_below (S := fun _ => False) hbi).cell hat'.c3 id
            rw [a2] at a1
            injection a1 with a1
            exact a1.symm
          have hll := Hls.out _ (List.getElem_mem hkl)
          have hok : okb rs[i] = true := List.all_eq_true.1 Hall.out _ (List.getElem_mem hkl)
          have hre : redoL block p (rs.take (i + 1)) = step1 block (redoL block p (rs.take i)) rs[i] := by rw [List.take_succ_eq_append_getElem hkl, redoL_snoc]
          have hql := redoL_length (block := block) (rs.take i) (fun r hr => List.all_eq_true.1 Hall.out r (List.mem_of_mem_take hr)) Hp6.out
          generalize rs[i] = x at *
          generalize redoL block p (rs.take i) = q at *
          have x0 := hat.c0
          have x1 := hat.c1
          have x2 := hat.c2
          have x3 := hat.c3
          have x4 := hat.c4
          have Hre := hide hre
          have Hql := hide hql
          have How := hide how
          have Hub := hide hub
          have hfit := fun h => ok_fits hok h
          have hcom := fun h => ok_commit hok h
          obtain ⟨ua, uc, rfl, -⟩ := id hub
          have Hat0 := hide hat'
          clear hub hre hql how hat hat0 hat'
          by_cases hkb : x.k = 1 ∧ x.b = block
          · obtain ⟨hk1, hk2⟩ := hkb
            obtain ⟨ho0, hof, hl1, hl44, -⟩ := hfit hk1
            obtain ⟨o, ho⟩ := Int.eq_ofNat_of_zero_le ho0
            have e1 : x.o.toNat = o := by omega
            rw [e1] at hof
            have hst : step1 block q x = over q o x.l := by rw [step1, if_pos ⟨hk1, hk2⟩, e1]
            obtain ⟨vb, voff, rfl, hvb⟩ : ∃ vb voff, ua = some ⟨vb, voff, none⟩ ∧ vb < w.heap.size := by
              obtain ⟨ao', cap', e, _, _, _, hc⟩ := id hub0
              injection e with e1
              subst e1
              obtain ⟨b, off, e, _⟩ := hc (by omega)
              subst e
              exact ⟨b, off, rfl, bs_lt2 hub0 (by omega) b rfl⟩
            have hst2 : redoL block p (rs.take (i + 1)) = over q o x.l := by rw [Hre.out, hst]
            have Hst := hide hst2
            rw [ho] at x2
            have Hof := hide hof
            have Hub0 := hide hub0
            clear hst hst2 hfit e1 hcom hub0
            go_wp2_with fail
            go_loopw [11] (fun jv wr => ∃ j : Nat, j ≤ x.l.length ∧ jv = .int .i64 (j : Int) ∧ wr.ownsRow w.heap.size 5 1 (.slice (some ⟨m, 0, none⟩) 256 cm) 256 (cellsB (over q o (x.l.take j))) ∧ Below w.heap.size w wr) (fun jv _ => x.l.length - (intOf jv).toNat)
            case atStart => exact ⟨0, Nat.zero_le _, rfl, by simpa [over] using How.out, hbi⟩
            case round =>
              obtain ⟨j, hj, rfl, how, hbj⟩ := hrel
              have hatj := Hat0.out.keeps (S := fun _ => False) (Keeps.of_below hbj) id
              have y1 := hatj.c1
              have y2 := hatj.c2
              have y3 := hatj.c3
              rw [ho] at y2
              clear hatj
              by_cases hjl : j < x.l.length
              · have hov : (over q o (x.l.take j)).length = 256 := by rw [over_length (by simp; rw [Hql.out]; omega), Hql.out]
                obtain ⟨_, _, e9, _, _, _, hcd9⟩ := Hub0.out.mono hbj
                injection e9 with e9
                obtain ⟨_, _, e8, hcd8⟩ := hcd9 (by omega)
                rw [← e9] at e8
                injection e8 with e8
                injection e8 with e8 e7
                subst e8 e7
                have hcd := hcd8 j hjl
                have hfz := how.frozenAt (o + j)
                have hce := owns_cell how hov.symm (o + j) (by omega)
                have hset := owns_set how (o + j) (x.l.getD j 0)
                rw [over_more hjl (by rw [Hql.out]; omega)] at hset
                have hwr : IntKind.i64.wrap ((o : Int) + (j : Int)) = (o : Int) + (j : Int) := wrap_small _ (by omega) (by omega)
                have hoj0 : (0 : Int) ≤ (o : Int) + (j : Int) := by omega
                have hoj1 : (o : Int) + (j : Int) < 256 := by omega
                have hoj2 : ((o : Int) + (j : Int)).toNat = o + j := by omega
                generalize over q o (x.l.take j) = qj at *
                generalize hxb : x.l.getD j 0 = xb at *
                have Hset := hide hset
                have How' := hide how
                have Hhov := hide hov
                have Hxb := hide hxb
                have Hcd8 := hide hcd8
                clear hset how hov hxb hcd9 hcd8 e9
                have hmb1 : m ≠ b1 := by omega
                have hmvb : m ≠ vb := by omega
                go_wp2_with fail
                go_region_held3 (fun w' => w'.cell? ⟨b1, o1 + i * 5 + 2, none⟩ = some (.int .i64 (o : Int)) ∧ w'.cell? ⟨b1, o1 + i * 5 + 3, none⟩ = some (.slice (some ⟨vb, voff, none⟩) x.l.length uc) ∧ w'.cell? ⟨vb, voff + j, none⟩ = some (.int .u8 (xb : Int))) (first | exact ⟨y2, y3, hcd⟩ | exact ⟨cell_set_b y2 hmb1, cell_set_b y3 hmb1, cell_set_b hcd hmvb⟩) (fail)
                rename_i hHeld
                clear hHeld
                have hb3 : Below w.heap.size w (wr.setCell ⟨m, o + j, none⟩ (.int .u8 (xb : Int))).drew := (hbj.setCell (p := ⟨m, o + j, none⟩) (by simp; omega) _).drew
                have Hset3 := hide (owns_below Hset.out ((Below.refl _ _).drew) (Nat.le_refl _))
                clear hfz hce hcd y1 y2 y3
                go_wp2_with fail
                go_roundw
                case rel => exact ⟨j + 1, by omega, by go_num, Hset3.out, hb3⟩
                case measure => simp [intOf]; omega
              · obtain rfl : j = x.l.length := by omega
                rw [List.take_of_length_le (Nat.le_refl _)] at how
                have How' := hide how
                clear how
                go_wp2_with fail
                go_roundw
                case rel => exact ⟨i + 1, by omega, by go_num, by rw [Hst.out]; exact How'.out, hbj⟩
                case measure => simp [intOf]; omega
          · have hst : step1 block q x = q := if_neg hkb
            have hsame : redoL block p (rs.take (i + 1)) = q := by rw [Hre.out, hst]
            have Hs := hide hsame
            clear hst hsame hfit
            go_wp2_with fail
            go_loopw [11] (fun jv wr => jv = .int .i64 0 ∧ wr.ownsRow w.heap.size 5 1 (.slice (some ⟨m, 0, none⟩) 256 cm) 256 (cellsB q) ∧ Below w.heap.size w wr) (fun jv _ => 0)
            case atStart => exact ⟨rfl, How.out, hbi⟩
            case round =>
              obtain ⟨rfl, how, hbj⟩ := hrel
              have hatj := Hat0.out.keeps (S := fun _ => False) (Keeps.of_below hbj) id
              have y1 := hatj.c1
              have y2 := hatj.c2
              have y3 := hatj.c3
              have How' := hide how
              clear hatj how
              by_cases hk1 : x.k = 1
              · have hk2 : ¬ x.b = block := fun h => hkb ⟨hk1, h⟩
                have hk3 : (x.b == block) = false := by simp [hk2]
                by_cases hl0 : 0 < x.l.length
                · go_wp2_with fail
                  go_roundw
                  case rel => exact ⟨i + 1, by omega, by go_num, by rw [Hs.out]; exact How'.out, hbj⟩
                  case measure => simp [intOf]; omega
                · have hl1 : x.l.length = 0 := by omega
                  go_wp2_with fail
                  go_roundw
                  case rel => exact ⟨i + 1, by omega, by go_num, by rw [Hs.out]; exact How'.out, hbj⟩
                  case measure => simp [intOf]; omega
              · have hl0 : x.l = [] := (hcom hk1).1
                have hl1 : x.l.length = 0 := by rw [hl0]; rfl
                go_wp2_with fail
                go_roundw
                case rel => exact ⟨i + 1, by omega, by go_num, by rw [Hs.out]; exact How'.out, hbj⟩
                case measure => simp [intOf]; omega
        · obtain rfl : i = k := by omega
          rw [List.take_of_length_le (by omega)] at how
          have hl6 := redoL_length (block := block) rs (fun r hr => List.all_eq_true.1 Hall.out r hr) Hp6.out
          have How' := hide how
          have Hl6 := hide hl6
          clear how hl6
          go_wp2_with fail
          refine bodyPost_ret (v := .tuple #[.slice (some ⟨m, 0, none⟩) 256 cm, .int .i64 0]) (by simp [results, Try.results20, go_sem]) rfl ?_
          rw [HG2.out]
          exact ⟨_, rfl, by rw [Hl6.out]; exact How'.out, hbi⟩

end Go.Proofs.Ytgdlbfoihpdlhaa
