/- Contract: the document's Committed. -/
import Derived.Test.YtgdlbfoihpdlhaaK2
set_option linter.unusedSimpArgs false
set_option linter.unusedVariables false
namespace Go.Proofs.Ytgdlbfoihpdlhaa
open Go.RowKit Go.Attic

/-- A row of records behind another one. -/
theorem Rw.app {B : Nat} {w w2 : World} {p p' : Option Nat} {vo vw v' : Value} {out wait : List Rc} {vs vs' : List Value} (ho : Rw w p (fun k => B ≤ k) vo out vs) (hw : Rw w p' (fun k => B ≤ k) vw wait vs') (hsep : ∀ i (hv : i < vs'.length) b, (vs'[i]).ownBlock = some b → p ≠ some b) (hB : B ≤ w.heap.size)
    (h : w2.ownsRow 0 48 5 v' (out.length + wait.length) (cellsR out vs ++ cellsR wait vs')) (hg : w.grownBy w2 vo.ownBlock) (hkin : v'.ownBlock = vo.ownBlock ∨ v'.ownBlock = some w.heap.size) :
    Rw w2 v'.ownBlock (fun k => B ≤ k) v' (out ++ wait) (vs ++ vs') := by
  have hkp : Keeps (fun k => p = some k) w w2 := Keeps.of_grown hg (fun k e => by rw [← ho.own]; exact e)
  have hnew : ∀ b, b < w.heap.size → p ≠ some b → v'.ownBlock ≠ some b := by
    intro b hb hp e
    rcases hkin with e2 | e2
    · exact hp (by rw [← ho.own, ← e2]; exact e)
    · rw [e2] at e; injection e with e; omega
  refine ⟨by rw [cellsR_app _ _ _ _ ho.len]; simpa using h, rfl, by simp [ho.len, hw.len], fun b hb => ?_, fun i hi hv => ?_⟩
  · rcases hkin with e2 | e2
    · exact ho.pF b (by rw [← ho.own, ← e2]; exact hb)
    · rw [e2] at hb; injection hb with hb; omega
  · simp at hi hv
    by_cases hil : i < out.length
    · have h1 : i < vs.length := by have := ho.len; omega
      obtain ⟨q1, q2⟩ := ho.bs i hil h1
      simp only [List.getElem_append_left hil, List.getElem_append_left h1]
      exact ⟨keeps_bs hkp q1 (fun hp b hb => (q2 hp b hb).2), fun hp b hb => ⟨(q2 hp b hb).1, hnew b (bs_lt2 q1 hp b hb) (q2 hp b hb).2⟩⟩
    · have hvl : vs.length = out.length := ho.len
      have hi2 : i - out.length < wait.length := by omega
      have hv2 : i - out.length < vs'.length := by have := hw.len; omega
      obtain ⟨q1, q2⟩ := hw.bs (i - out.length) hi2 hv2
      have g1 : (out ++ wait)[i]'(by simp; omega) = wait[i - out.length] := List.getElem_append_right (by omega)
      have g2 : (vs ++ vs')[i]'(by simp; omega) = vs'[i - out.length] := by
        rw [List.getElem_append_right (by omega)]
        simp only [hvl]
      rw [g1, g2]
      exact ⟨keeps_bs hkp q1 (fun hp b hb => hsep _ hv2 b hb), fun hp b hb => ⟨(q2 hp b hb).1, hnew b (bs_lt2 q1 hp b hb) (hsep _ hv2 b hb)⟩⟩

/-- Both rows, apart from each other. -/
structure Cm (w : World) (B : Nat) (vo vw : Value) (out wait : List Rc) (p p' : Option Nat) (vs vs' : List Value) : Prop where
  o : Rw w p (fun k => B ≤ k ∧ p' ≠ some k) vo out vs
  w : Rw w p' (fun k => B ≤ k) vw wait vs'
  sep : ∀ i (hv : i < vs'.length) b, (vs'[i]).ownBlock = some b → p ≠ some b
theorem Cm.mono {w w' : World} {B : Nat} {vo vw : Value} {out wait : List Rc} {p p' : Option Nat} {vs vs' : List Value} (h : Cm w B vo vw out wait p p' vs vs') (hb : Below w.heap.size w w') : Cm w' B vo vw out wait p p' vs vs' :=
  ⟨h.o.mono hb, h.w.mono hb, h.sep⟩
theorem Cm.push {B : Nat} {w w1 w2 : World} {p p' : Option Nat} {vo vw v' u : Value} {out wait : List Rc} {vs vs' : List Value} {r : Rc} {o : Obj} (h : Cm w B vo vw out wait p p' vs vs') (hB : B ≤ w.heap.size) (hb : Below w.heap.size w w1) (hx : ∀ x ∈ r.l, x < 256)
    (hu : w1.ownsRow w.heap.size 5 1 u r.l.length (cellsB r.l)) (ho : w2.ownsRow 0 48 5 v' (wait.length + 1) (cellsR wait vs' ++ r.cells u)) (hg : (w1.alloc o).grownBy w2 vw.ownBlock) (hkin : v'.ownBlock = vw.ownBlock ∨ v'.ownBlock = some (w1.heap.size + 1)) :
    Cm w2 B vo v' out (wait ++ [r]) p v'.ownBlock vs (vs' ++ [u]) := by
  have hz := hb.size
  have hA : Below w.heap.size w (w1.alloc o) := hb.alloc (by omega) o
  have hkp : Keeps (fun k => p' = some k) (w1.alloc o) w2 := Keeps.of_grown hg (fun k e => by rw [← h.w.own]; exact e)
  have hp : ∀ k, p = some k → k < w.heap.size := fun k hk => owns_lt' h.o.row k (h.o.own.trans hk)
  refine ⟨?_, Rw.push h.w hB hb hx hu ho hg hkin, fun i hv b hb' e => ?_⟩
  · refine ((h.o.narrow.mono hA).keeps hkp (fun k hk e => hk.1.2 e)).widen (fun k hk => ⟨hk.1.1, fun e => ?_⟩)
    rcases hkin with e2 | e2
    · exact hk.1.2 (by rw [← h.w.own, ← e2]; exact e)
    · rw [e2] at e; injection e with e; have := hk.2; omega
  · simp at hv
    by_cases hl : i < vs'.length
    · simp only [List.getElem_append_left hl] at hb'
      exact h.sep i hl b hb' e
    · have e1 : i = vs'.length := by omega
      subst e1
      simp at hb'
      have := owns_lt hu b hb'
      have := hp b e
      omega

set_option maxRecDepth 100000 in
set_option maxHeartbeats 2000000 in
theorem rcomm_any {w : World} {F : Nat → Prop} {v : Value} {rs : List Rc} (h : Rs w F v rs) (hlen : rs.length ≤ 1000) (hls : ∀ r ∈ rs, r.l.length ≤ 140737488355328) :
    Calls Try.prog 12 #[v] w (NewRcN w (commit rs).1 (commit rs).2) := by
  obtain ⟨i0, hi, hz0, hz1, hz2⟩ := info_parts Try.info48
  obtain ⟨ao, cap, e, hcap⟩ := h.slice
  subst e
  obtain ⟨L, hL⟩ : ∃ L, rs.length = L := ⟨_, rfl⟩
  rw [hL] at hlen hcap
  rw [hL]
  obtain ⟨G, hG⟩ : ∃ G, commit rs = G := ⟨_, rfl⟩
  rw [hG]
  have HG := hide hG
  have HL := hide hL
  have H := hide h
  have Hls := hide hls
  clear h hL hls hG
  go_enter Try.func12, Try.ntmps12
  go_wp2_with fail
  go_loopw [4, 5, 6, 7] (fun wv ov nv iv wr => ∃ (k n : Nat) (out wait : List Rc) (p p' : Option Nat) (vs vs' : List Value), k ≤ L ∧ wait.length + out.length ≤ k ∧ iv = .int .i64 (k : Int) ∧ nv = .int .i64 (n : Int) ∧ comm (rs.drop k) wait out n k = G ∧ Cm wr w.heap.size ov wv out wait p p' vs vs' ∧ Below w.heap.size w wr) (fun _ _ _ iv _ => L - (intOf iv).toNat)
  case atStart => exact ⟨0, 0, [], [], none, none, [], [], Nat.zero_le _, Nat.le_refl _, rfl, rfl, HG.out, ⟨Rw.nil _ _, Rw.nil _ _, fun i hv => by simp at hv⟩, Below.refl _ _⟩
  case round =>
    obtain ⟨k, n, out, wait, p, p', vs, vs', hk, hout, rfl, rfl, hcm, hC, hbr⟩ := hrel
    obtain ⟨pa, pc, rfl⟩ := owns_slice hC.o.row
    obtain ⟨qa, qc, rfl⟩ := owns_slice hC.w.row
    have HC := hide hC
    clear hC
    by_cases hkL : k < L
    · have hkl : k < rs.length := by have := HL.out; omega
      obtain ⟨-, b1, o1, u1, rfl, -, hat, hub, -⟩ := (H.out.mono hbr).at k hkl
      have hll := Hls.out _ (List.getElem_mem hkl)
      rw [drop_at hkl] at hcm
      generalize hx : rs[k] = x at *
      obtain ⟨ua, uc, rfl, -⟩ := id hub
      have x0 := hat.c0
      have x1 := hat.c1
      have x2 := hat.c2
      have x3 := hat.c3
      have x4 := hat.c4
      have hxl := hub.lt
      have Hcm := hide hcm
      have Hx := hide hx
      have Hat := hide hat
      have Hub := hide hub
      clear hcm hx hat hub
      go_wp2_with fail
      refine (rcheck_any _ _ _ _ _ _ _ wr hll).mono ?_
      rintro e w1 ⟨rfl, hb1⟩
      have hb01 := hbr.trans (hb1.mono hbr.size)
      have hat1 := Hat.out.mono hb1
      have hC1 := HC.out.mono hb1
      have hub1 := Hub.out.mono hb1
      have y0 := hat1.c0
      have y1 := hat1.c1
      have y2 := hat1.c2
      have y3 := hat1.c3
      have y4 := hat1.c4
      have HC1 := hide hC1
      have Hub1 := hide hub1
      clear x0 x1 x2 x3 x4 hat1 hC1 hub1
      cases hok : okb x with
      | false =>
        rw [okb_no hok]
        have hres := (comm_no hok).symm.trans Hcm.out
        go_wp2_with fail
        refine bodyPost_ret (v := .tuple #[.slice pa out.length pc, .int .i64 (n : Int)]) (by simp [results, Try.results12, go_sem]) rfl ?_
        exact ⟨_, _, _, by rw [← hres], by rw [← hres]; exact HC1.out.o.widen (fun k hk => hk.1), hb01⟩
      | true =>
        rw [okb_chk hok]
        have Hok := hide hok
        clear hok
        by_cases hk1 : x.k = 1
        · have hres := (comm_patch Hok.out hk1).symm.trans Hcm.out
          have Hres := hide hres
          have Hk1 := hide hk1
          have hkb : (x.k == 1) = true := by simp [hk1]
          clear hres hk1
          go_wp2_with fail
          refine (rclone_rec x.k x.b x.o x.m _ x.l w1 Hub1.out hll).mono ?_
          rintro e w2 ⟨u, rfl, hou, hb2⟩
          obtain ⟨ca, cc, rfl⟩ := owns_slice hou
          have hrow2 := (HC1.out.mono hb2).w.row
          have hrowA := (Keeps.alloc (S := fun _ => False) w2 (.cells #[.int .i64 x.k, .int .i64 x.b, .int .i64 x.o, .slice ca x.l.length cc, .int .i64 x.m] 48)).owns hrow2 (fun _ _ => id)
          have Hou := hide hou
          have hwl : wait.length ≤ 1000 := by omega
          clear hou hrow2 y0 y1 y2 y3 y4
          go_wp2_with (at_builtin; refine wpList_append_own_at _ rfl (.tmp 28) (.tmp 34) 22 rfl 0 48 i0 (.agg #[.int .i64 0, .int .i64 0, .int .i64 0, .slice none 0 0, .int .i64 0]) 5 56 Try.underlying22 hi hz0 hz1 hz2 rfl (by decide) (.slice qa wait.length qc) _ _ rfl hrowA ⟨w2.heap.size, 0, none⟩ 1 1 [.int .i64 x.k, .int .i64 x.b, .int .i64 x.o, .slice ca x.l.length cc, .int .i64 x.m] rfl rfl (cell_five_new _ _ _ _ _ _ _) (by simp [Value.oneCell']) (by unfold maxLen; omega) (by omega) (by omega) ?_; intro v3 w3 hown3 hgrow3 _ hkin3)
          have hpush := Cm.push HC1.out hb01.size hb2 hxl Hou.out hown3 hgrow3 (by simpa using hkin3)
          have hb3 : Below w.heap.size w w3 := ((hb01.trans (hb2.mono hb01.size)).alloc (by have := hb01.size; have := hb2.size; omega) _).grown hgrow3 (by simp; have := hb01.size; have := hb2.size; omega) (fun j hj => HC1.out.w.pF j (HC1.out.w.own ▸ hj))
          have Hpush := hide hpush
          clear hpush hown3 hgrow3 hkin3 hrowA
          go_roundw
          case rel => exact ⟨k + 1, n, out, wait ++ [x], p, _, vs, _, by omega, by simp; omega, by go_num, rfl, Hres.out, Hpush.out, hb3⟩
          case measure => simp [intOf]; omega
        · have hkb : (x.k == 1) = false := by simp [hk1]
          have Hk1 := hide hk1
          clear hk1
          by_cases hm : x.m = (wait.length : Int)
          · have hres := (comm_counts (rs := rs.drop (k + 1)) (out := out) (n := n) (i := k) Hok.out Hk1.out hm).symm.trans Hcm.out
            have Hres := hide hres
            have hmb : (x.m == (wait.length : Int)) = true := by simp [hm]
            have Hm := hide hm
            have hwl : wait.length ≤ 1000 := by omega
            have hol : out.length ≤ 1000 := by omega
            have hcl := cellsR_length wait vs' HC1.out.w.len
            have hone := cellsR_one wait vs' HC1.out.w.slices
            have hrowo := HC1.out.o.row
            clear hres hm
            rcases HC1.out.w.row.2 with ⟨e, h0⟩ | ⟨g, cap', cur, e, _⟩
            · injection e with e1 e2 e3
              subst e1 e3
              have hw0 : wait = [] := List.eq_nil_of_length_eq_zero h0
              subst hw0
              have Hcl := hide hcl
              clear hcl hone h0 e2
              simp only [List.length_nil] at hmb ⊢
              go_wp2_with (at_builtin; refine wpList_append_own_none rfl (.tmp 46) (.tmp 47) 22 rfl 0 48 i0 5 Try.underlying22 hi (.slice pa out.length pc) _ _ rfl hrowo rfl ?_)
              go_roundw
              case rel => exact ⟨k + 1, k + 1, out, [], p, none, vs, [], by omega, by simp; omega, by go_num, by go_num, by simpa using Hres.out, ⟨HC1.out.o.widen (fun j hj => ⟨hj.1, by simp⟩), Rw.nil _ _, fun i hv => by simp at hv⟩, hb01⟩
              case measure => simp [intOf]; omega
            · injection e with e1 e2 e3
              subst e1 e3
              have hcells : ∀ j u, (cellsR wait vs')[j]? = some u → w1.cell? ((⟨g, 0, none⟩ : Addr).add j) = some u := fun j u hu => HC1.out.w.row.cells (g := g) rfl j u hu
              go_wp2_with (at_builtin; refine wpList_append_own_at _ rfl (.tmp 46) (.tmp 47) 22 rfl 0 48 i0 (.agg #[.int .i64 0, .int .i64 0, .int .i64 0, .slice none 0 0, .int .i64 0]) 5 56 Try.underlying22 hi hz0 hz1 hz2 rfl (by decide) (.slice pa out.length pc) _ _ rfl hrowo ⟨g, 0, none⟩ wait.length qc (cellsR wait vs') rfl hcl hcells hone (by unfold maxLen; omega) (by omega) (by omega) ?_; intro v3 w3 hown3 hgrow3 _ hkin3)
              have happ := Rw.app (HC1.out.o.widen (fun j hj => hj.1)) HC1.out.w HC1.out.sep hb01.size hown3 hgrow3 hkin3
              have hb3 : Below w.heap.size w w3 := hb01.grown hgrow3 hb01.size (fun j hj => (HC1.out.o.pF j (HC1.out.o.own ▸ hj)).1)
              have Happ := hide (happ.widen (F' := fun k => w.heap.size ≤ k ∧ (none : Option Nat) ≠ some k) (fun j hj => ⟨hj, by simp⟩))
              clear happ hown3 hgrow3 hkin3 hcells hone hcl hrowo
              go_roundw
              case rel => exact ⟨k + 1, k + 1, out ++ wait, [], _, none, _, [], by omega, by simp; omega, by go_num, by go_num, Hres.out, ⟨Happ.out, Rw.nil _ _, fun i hv => by simp at hv⟩, hb3⟩
              case measure => simp [intOf]; omega
          · have hres := (comm_not (rs := rs.drop (k + 1)) (out := out) (n := n) (i := k) Hok.out Hk1.out hm).symm.trans Hcm.out
            have hmb : (x.m == (wait.length : Int)) = false := by simp [hm]
            have hmn : ¬ x.m = (wait.length : Int) := hm
            go_wp2_with fail
            refine bodyPost_ret (v := .tuple #[.slice pa out.length pc, .int .i64 (n : Int)]) (by simp [results, Try.results12, go_sem]) rfl ?_
            exact ⟨_, _, _, by rw [← hres], by rw [← hres]; exact HC1.out.o.widen (fun k hk => hk.1), hb01⟩
    · obtain rfl : k = L := by omega
      have e := HL.out
      rw [List.drop_of_length_le (by omega)] at hcm
      have hres : (out, n) = G := by simpa [comm] using hcm
      clear hcm
      go_wp2_with fail
      refine bodyPost_ret (v := .tuple #[.slice pa out.length pc, .int .i64 (n : Int)]) (by simp [results, Try.results12, go_sem]) rfl ?_
      exact ⟨_, _, _, by rw [← hres], by rw [← hres]; exact HC.out.o.widen (fun k hk => hk.1), hbr⟩

end Go.Proofs.Ytgdlbfoihpdlhaa
