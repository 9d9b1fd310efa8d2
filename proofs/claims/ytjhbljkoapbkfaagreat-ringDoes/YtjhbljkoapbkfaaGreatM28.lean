/- Contract: the document's Open of a log, on a disk whose power is on. -/
import Derived.Test.YtjhbljkoapbkfaaGreatM11
import Derived.Test.YtjhbljkoapbkfaaGreatM12
import Derived.Test.YtjhbljkoapbkfaaGreatM15
import Derived.Test.YtjhbljkoapbkfaaGreatM27
set_option linter.unusedSimpArgs false
set_option linter.unusedVariables false

namespace Go.Proofs.YtjhbljkoapbkfaaGreat
open Go.RowKit Go.Attic Go.Shelf

theorem rtakeY (L : List Nat) (n : Nat) (r : Rc) (h : IsRc L n r) (v : Value) (w : World) (hv : Bs w v L) :
    Calls Tryz.prog 63 #[v, .int .i64 (n : Int)] w (RTakeE w r.k r.b r.o r.l r.m 0) := by
  obtain ⟨k, b, o, m, l, er, hT, -, hc⟩ := take_both2 L n hv.lt (by have := h.ok.2.2.2; omega)
  obtain ⟨k', b', o', m', l', rfl, hi⟩ := h
  rcases hT with ⟨rfl, p, k2, b2, o2, m2, hp, rfl, rfl, rfl, rfl, h2⟩ | ⟨_, _, h2⟩
  · obtain ⟨_, rfl, rfl, rfl, rfl, rfl⟩ := hi.one h2
    exact hc v w hv
  · exact absurd rfl (h2 _ _ _ _ _ _ hi)
theorem rtakeN (L : List Nat) (n : Nat) (h : NoRc L n) (hl : L.length ≤ 140737488355328) (hx : ∀ x ∈ L, x < 256) : ∃ (k b o m er : Int), (er = 1 ∨ er = 61) ∧ ∀ (v : Value) (w : World), Bs w v L →
    Calls Tryz.prog 63 #[v, .int .i64 (n : Int)] w (RTakeE w k b o [] m er) := by
  obtain ⟨k, b, o, m, l, er, hT, -, hc⟩ := take_both2 L n hx hl
  rcases hT with ⟨rfl, p, k2, b2, o2, m2, hp, rfl, rfl, rfl, rfl, h2⟩ | ⟨he, rfl, h2⟩
  · exact absurd ⟨k2, b2, o2, m2, l, rfl, by have : n = p := by omega
                                             rw [this]; exact h2⟩ (h ⟨k2, b2, o2, m2, l⟩)
  · exact ⟨k, b, o, m, er, he, fun v w hv => hc v w hv⟩

/-- The document's ring while its records are read: its own row of them. -/
structure Wo (w : World) (x g base blocks head : Nat) (p : Option Nat) (F : Nat → Prop) (v : Value) (rs : List Rc) (vs : List Value) : Prop where
  c0 : w.cell? ⟨x, 0, none⟩ = some (.pointer (some ⟨g, 0, none⟩))
  c1 : w.cell? ⟨x, 1, none⟩ = some (.int .i64 (base : Int))
  c2 : w.cell? ⟨x, 2, none⟩ = some (.int .i64 (blocks : Int))
  c3 : w.cell? ⟨x, 3, none⟩ = some (.int .i64 (head : Int))
  c4 : w.cell? ⟨x, 4, none⟩ = some v
  rw : Rw w p F v rs vs
  f3 : w.frozen? ⟨x, 3, none⟩ = false
  f4 : w.frozen? ⟨x, 4, none⟩ = false
  xF : ¬ F x
  Fl : ∀ k, F k → k < w.heap.size

theorem Wo.xl {w : World} {x g base blocks head : Nat} {p : Option Nat} {F : Nat → Prop} {v : Value} {rs : List Rc} {vs : List Value} (h : Wo w x g base blocks head p F v rs vs) : x < w.heap.size := by
  have := World.block_lt_of_cell? w _ h.c0; simpa using this
theorem Wo.keeps {w w' : World} {x g base blocks head : Nat} {p : Option Nat} {F S : Nat → Prop} {v : Value} {rs : List Rc} {vs : List Value} (h : Wo w x g base blocks head p F v rs vs) (hk : Keeps S w w') (hx : ¬ S x) (hS : ∀ k, F k → ¬ S k) : Wo w' x g base blocks head p F v rs vs :=
  ⟨hk.cell h.c0 hx, hk.cell h.c1 hx, hk.cell h.c2 hx, hk.cell h.c3 hx, hk.cell h.c4 hx, h.rw.keeps hk hS, by rw [hk.frozen (a := ⟨x, 3, none⟩) h.xl hx]; exact h.f3, by rw [hk.frozen (a := ⟨x, 4, none⟩) h.xl hx]; exact h.f4, h.xF, fun k hk' => Nat.lt_of_lt_of_le (h.Fl k hk') hk.size⟩
theorem Wo.mono {w w' : World} {x g base blocks head : Nat} {p : Option Nat} {F : Nat → Prop} {v : Value} {rs : List Rc} {vs : List Value} (h : Wo w x g base blocks head p F v rs vs) (hb : Below w.heap.size w w') : Wo w' x g base blocks head p F v rs vs :=
  h.keeps (S := fun _ => False) (Keeps.of_below hb) id (fun _ _ => id)
theorem Wo.wk {w : World} {x g base blocks head : Nat} {p : Option Nat} {F : Nat → Prop} {v : Value} {rs : List Rc} {vs : List Value} (h : Wo w x g base blocks head p F v rs vs) (b1 : 1 ≤ blocks) (b2 : blocks ≤ 256) (b3 : base ≤ 2048) (hd : head ≤ 1152921504606846976) (ln : rs.length ≤ 4 * blocks) (ok : ∀ x ∈ rs, okRc x) : Wk w x g base blocks head F rs := by
  obtain ⟨ao, cap, e, hc, hg⟩ := owns_form h.rw.row
  have hn : ao = none → cap = 0 := fun e0 => by
    subst e0
    rcases h.rw.row with ⟨_, hh⟩
    rcases hh with ⟨e1, _⟩ | ⟨b, cp, cur, e1, _⟩
    · rw [e] at e1; injection e1
    · rw [e] at e1; injection e1 with e1; cases e1
  subst e
  exact ⟨h.c0, h.c1, h.c2, h.c3, ⟨ao, cap, h.c4, h.rw.rs, hn⟩, h.f3, h.f4, h.xF, h.Fl, b1, b2, b3, hd, ln, ok⟩

theorem Wt.rs2 {w : World} {wb : Nat} {F F' : Nat → Prop} {ao : Option Addr} {cap : Nat} {rs : List Rc} {vs : List Value} (h : Wt w wb F ao cap rs vs) (hF : ∀ k, F k → F' k) (hw : 0 < cap → F' wb) : Rs w F' (.slice ao rs.length cap) rs := by
  refine ⟨ao, cap, vs, rfl, h.le, h.len, fun hp => ?_, fun i hi hv => ⟨(h.bs i hi hv).1, fun hp k hk => hF k ((h.bs i hi hv).2 hp k hk)⟩⟩
  obtain ⟨off, e, hl, h1, h2⟩ := h.spot (by have := h.le; omega)
  exact ⟨wb, off, e, hw (by have := h.le; omega), fun i hi hv => rcAt_of h.len h1 i hi hv⟩

/-- One record more. -/
theorem Wo.pushed {w w2 : World} {x g base blocks head : Nat} {p : Option Nat} {F : Nat → Prop} {v v' u : Value} {rs : List Rc} {vs : List Value} {r : Rc} (h : Wo w x g base blocks head p F v rs vs) (hFx : ∀ k, F k → x < k) (hk : Keeps (fun k => p = some k) w w2)
    (ho : w2.ownsRow 0 52 5 v' (rs.length + 1) (cellsR rs vs ++ r.cells u)) (hkin : ∀ k, v'.ownBlock = some k → p = some k ∨ w.heap.size ≤ k) (hu : Bs w2 u r.l) (hup : 0 < r.l.length → ∀ k, u.ownBlock = some k → v'.ownBlock ≠ some k) (hux : ∀ k, u.ownBlock = some k → x < k) :
    Wo (w2.setCell ⟨x, 4, none⟩ v') x g base blocks head v'.ownBlock (fun k => x < k ∧ k < w2.heap.size) v' (rs ++ [r]) (vs ++ [u]) := by
  have hxl := h.xl
  have hpx : ¬ (fun k => p = some k) x := fun e => h.xF (h.rw.pF x e)
  have hR := ((h.rw.snoc h.Fl hk ho hkin hu hup).narrow).widen (F' := fun k => x < k ∧ k < w2.heap.size) (fun k hk => ⟨by
    rcases hk.1 with e | e | e
    · exact hFx k e
    · rcases hkin k e with e | e
      · exact hFx k (h.rw.pF k e)
      · omega
    · exact hux k e, hk.2⟩)
  exact ⟨cell_set_other (hk.cell h.c0 hpx) (by omega), cell_set_other (hk.cell h.c1 hpx) (by omega), cell_set_other (hk.cell h.c2 hpx) (by omega), cell_set_other (hk.cell h.c3 hpx) (by omega), cell_set_same (hk.cell h.c4 hpx), hR.keeps (keeps_set w2 x 4 v') (fun k hk e => by have e' : k = x := e; omega), by simpa [hk.frozen (a := ⟨x, 3, none⟩) hxl hpx] using h.f3, by simpa [hk.frozen (a := ⟨x, 4, none⟩) hxl hpx] using h.f4, fun hx => by omega, fun k hk => by simpa using hk.2⟩

set_option maxRecDepth 100000 in
set_option maxHeartbeats 1000000 in
theorem ropen_on {w : World} {g : Nat} {q p : Option Nat} {F : Nat → Prop} {n : Nat} {s : St} (h : Dr w g q p F n s) (hon : s.on = true) (hpl : s.pend.length ≤ 1000000) (base blocks head : Nat) (h1 : 1 ≤ blocks) (h2 : blocks ≤ 256) (h3 : base + blocks ≤ n) (hh : head ≤ 1152921504606846976) :
    Calls Tryz.prog 42 #[.pointer (some ⟨g, 0, none⟩), .int .i64 (base : Int), .int .i64 (blocks : Int), .int .i64 (head : Int)] w fun e w' => ∃ rs x v Fx, e = .returned (.tuple #[.pointer (some ⟨x, 0, none⟩), v, .int .i64 0]) ∧
      Scanned (secAt s base blocks) head (4 * blocks) rs ∧ Wk w' x g base blocks head Fx rs ∧ w.heap.size ≤ x ∧ (∀ k, Fx k → w.heap.size ≤ k) ∧ Rs w' (fun k => w.heap.size ≤ k) v rs ∧ Below w.heap.size w w' := by
  obtain ⟨i0, hi, hz0, hz1', hz2'⟩ := info_parts Tryz.info52
  have hn1 := h.ok.n1
  have hn2 := h.ok.n2
  obtain ⟨vB, vsB, c0, hB⟩ := h.c0
  obtain ⟨aoB, capB, rfl, _⟩ := owns_form hB.row
  have g1 : ¬ (n : Int) < (base : Int) := by omega
  have g2 : ¬ (n : Int) - (base : Int) < (blocks : Int) := by omega
  have g3 : ¬ (blocks : Int) < 1 := by omega
  have g4 : ¬ (256 : Int) < (blocks : Int) := by omega
  have g5 : ¬ (base : Int) < 0 := by omega
  have g6 : ¬ (head : Int) < 0 := by omega
  have g7 : ¬ (1152921504606846976 : Int) < (head : Int) := by omega
  have H := hide h
  have Hon := hide hon
  clear h hB hon
  go_enter Tryz.func42, Tryz.ntmps42
  go_wp2_with fail
  obtain ⟨x, hx⟩ : ∃ x, w.heap.size = x := ⟨_, rfl⟩
  obtain ⟨W0, hW0⟩ : ∃ W, w.alloc (.cells #[.pointer (some ⟨g, 0, none⟩), .int .i64 (base : Int), .int .i64 (blocks : Int), .int .i64 (head : Int), .slice none 0 0] 62) = W := ⟨_, rfl⟩
  have hb0 : Below w.heap.size w W0 := by rw [← hW0]; exact (Below.refl _ _).alloc (Nat.le_refl _) _
  have hI0 : Wo W0 x g base blocks head none (fun k => x < k ∧ k < W0.heap.size) (.slice none 0 0) [] [] := by
    rw [← hW0, ← hx]
    exact ⟨by simp, by simp, by simp, by simp, by simp, Rw.nil _ _, by unfold World.frozen?; rw [World.alloc_heap_new]; rfl, by unfold World.frozen?; rw [World.alloc_heap_new]; rfl, by simp, fun k hk => hk.2⟩
  rw [hx, hW0]
  have Hx := hide hx
  have HI0 := hide hI0
  clear hx hW0 hI0 c0 g1 g2 g3 g4 g5 g6 g7
  go_loopw [12] (fun i wr => ∃ (rs : List Rc) (vs : List Value) (v : Value) (pp : Option Nat) (Fq : Nat → Prop), rs.length ≤ 4 * blocks ∧ i = .int .i64 (rs.length : Int) ∧ Got (secAt s base blocks) head rs ∧ (∀ y ∈ rs, okRc y) ∧ Wo wr x g base blocks head pp Fq v rs vs ∧ (∀ k, Fq k → x < k) ∧ Below w.heap.size w wr) (fun i _ => 4 * blocks - (intOf i).toNat)
  case atStart => exact ⟨[], [], _, none, _, Nat.zero_le _, rfl, by intro i hi; simp at hi, by simp, HI0.out, fun k hk => hk.1, hb0⟩
  case round =>
    clear HI0 hb0
    obtain ⟨rs, vs, v, pp, Fq, hk, rfl, hgot, hok, hwo, hFq, hB⟩ := hrel
    by_cases hlt : rs.length < 4 * blocks
    · have hml : (head + rs.length) / 4 % blocks < blocks := Nat.mod_lt _ (by omega)
      have hpc := place_yes base blocks (head + rs.length) wr h1 h2 (by omega) (by omega)
      have hsec : secAt s base blocks (head + rs.length) = secOf (readL s (base + (head + rs.length) / 4 % blocks)) (head + rs.length) := rfl
      obtain ⟨b, hb⟩ : ∃ b, base + (head + rs.length) / 4 % blocks = b := ⟨_, rfl⟩
      have hbn : b < n := by omega
      rw [hb] at hsec hpc
      have hrd := rread_yes (H.out.mono hB) (b : Int) hpl
      have hrs : readS s n (b : Int) = (readL s b, 0) := by
        unfold readS
        rw [if_neg (by simp [Hon.out]), if_neg (by simp [inS]; omega)]
        rfl
      rw [hrs] at hrd
      obtain ⟨hrl1, hrl2⟩ := readL_ok (i := b) H.out.ok hbn
      obtain ⟨a, ha⟩ : ∃ a, (head + rs.length) % 4 * 64 = a := ⟨_, rfl⟩
      have hal : a ≤ 192 := by omega
      rw [ha] at hpc
      generalize readL s b = bytes at *
      have Hgot := hide hgot
      have Hwo := hide hwo
      have Hok := hide hok
      have Hsec := hide hsec
      have Ha := hide ha
      clear hgot hwo hok hsec ha hrs hml hb
      obtain ⟨nn, hnn⟩ : ∃ nn : Nat, head + rs.length = nn := ⟨_, rfl⟩
      have hnni : (head : Int) + (rs.length : Int) = (nn : Int) := by omega
      rw [hnn] at hpc
      have Hnn := hide hnn
      clear hnn
      go_wp2_with fail
      refine hpc.mono ?_
      rintro e w' ⟨rfl, rfl⟩
      go_wp2_with fail
      refine hrd.mono ?_
      rintro e W1 ⟨vb, rfl, hob, hB1⟩
      obtain ⟨aob, capb, rfl, hcb, hgb⟩ := owns_form hob
      have hbs := Bs.of_owns hob hrl2
      dsimp only at hob hcb hgb hbs
      rw [hrl1] at hob hcb hgb hbs
      obtain ⟨bb, rfl, hbb⟩ := hgb (by omega)
      have hse := bs_sec hbs hrl1 nn
      have hna : nn % 4 * 64 = a := by rw [← Hnn.out]; exact Ha.out
      rw [hna, Nat.zero_add] at hse
      have Hna := hide hna
      clear hna
      rcases rc_em (secOf bytes nn) nn with ⟨r, hr⟩ | hno
      · have hty := rtakeY _ _ _ hr _ _ hse
        obtain ⟨hokr, hlen44, hltr, -⟩ := hr.ok
        clear hgb
        go_wp2_with fail
        refine hty.mono ?_
        rintro e W2 ⟨tv, rfl, htb, hto, hB2⟩
        obtain ⟨tao, tcap, rfl, -⟩ := id htb
        obtain ⟨WT, hWe⟩ : ∃ W, W2.alloc (.cells #[.int .i64 r.k, .int .i64 r.b, .int .i64 r.o, .slice tao r.l.length tcap, .int .i64 r.m] 52) = W := ⟨_, rfl⟩
        have hzs : w.heap.size ≤ wr.heap.size ∧ wr.heap.size ≤ W1.heap.size ∧ W1.heap.size ≤ W2.heap.size := ⟨hB.size, hB1.size, hB2.size⟩
        have hzT : WT.heap.size = W2.heap.size + 1 := by rw [← hWe]; simp
        have hBT : Below w.heap.size w WT := by
          rw [← hWe]
          exact ((hB.trans (hB1.mono hB.size)).trans (hB2.mono (by omega))).alloc (by omega) _
        have hwoT : Wo WT x g base blocks head pp Fq v rs vs := by
          rw [← hWe]
          exact ((Hwo.out.mono hB1).mono hB2).mono ((Below.refl _ _).alloc (Nat.le_refl _) _)
        have hRb : RecAt WT W2.heap.size r.k r.b r.o (.slice tao r.l.length tcap) r.m := by rw [← hWe]; exact RecAt.new W2 _ _ _ _ _
        obtain ⟨r0, r1, r2, r3, r4⟩ := hRb.held
        have htbT : Bs WT (.slice tao r.l.length tcap) r.l := by rw [← hWe]; exact htb.alloc _
        have hxx := Hx.out
        have hxW : x < wr.heap.size := Hwo.out.xl
        obtain ⟨aoT, capT, rfl⟩ := owns_slice hwoT.rw.row
        have c4T := hwoT.c4
        have f4T := hwoT.f4
        have rowT := hwoT.rw.row
        have c4a := (Keeps.alloc (S := fun _ => False) WT (.cells #[.int .i64 r.k, .int .i64 r.b, .int .i64 r.o, .slice tao r.l.length tcap, .int .i64 r.m] 52)).cell c4T id
        have hpx : some x ≠ (Value.slice aoT rs.length capT).ownBlock := fun e => hwoT.xF (hwoT.rw.pF x (hwoT.rw.own.symm.trans e.symm))
        have Hxx := hide (show ∀ b, pp = some b → b < wr.heap.size from fun b hb => Hwo.out.Fl b (Hwo.out.rw.pF b hb))
        have HwoT := hide hwoT
        have HtbT := hide htbT
        have HBT := hide hBT
        have Hr := hide hr
        have Hto := hide hto
        have HRb := hide hRb
        have HzT := hide (And.intro hzT hzs)
        clear hwoT htbT hBT hr hto hRb hzT htb hB hB1 hB2 hse hbs hob hty hpc hrd Hwo
        go_wp2_with fail
        go_region_law (first
          | (refine step_append_at rfl (.tmp 104) (.tmp 106) 29 rfl 0 52 i0 (.agg #[.int .i64 0, .int .i64 0, .int .i64 0, .slice none 0 0, .int .i64 0]) 5 56 Tryz.underlying29 hi hz0 hz1' hz2' rfl (by decide) (.slice aoT rs.length capT) rs.length (cellsR rs vs) rfl (rowT.alloc _) ⟨WT.heap.size, 0, none⟩ 1 1 [.int .i64 r.k, .int .i64 r.b, .int .i64 r.o, .slice tao r.l.length tcap, .int .i64 r.m] rfl rfl (cell_five_new _ _ _ _ _ _ _) (by simp [Value.oneCell']) (by unfold maxLen; omega) (by omega) (by omega) ?_
             intro v2 w2 ho2 hg2 hkin2
             obtain ⟨g2, cap2, rfl⟩ := owns_succ ho2
             have c4'' := hg2.cell c4a hpx
             have f4'' : w2.frozen? ⟨x, 4, none⟩ = false := (by rw [World.frozen?_of_block (w := WT) (a := ⟨x, 4, none⟩) ((hg2.block x (by have := HzT.out; simp; omega) hpx).trans (Below.heap_alloc _ _ _ (by have := HzT.out; omega)))]; exact f4T)
             skip))
        all_goals
          have hzz := HzT.out
          have hown : (Value.slice aoT rs.length capT).ownBlock = pp := HwoT.out.rw.own
          rw [hown] at hg2
          have hkin3 : ∀ b, (Value.slice (some ⟨g2, 0, none⟩) (rs.length + 1) cap2).ownBlock = some b → pp = some b ∨ WT.heap.size + 1 ≤ b := by
            intro b hb
            rcases hkin2 with e | e
            · exact .inl (hown.symm.trans (e.symm.trans hb))
            · rw [e] at hb; injection hb with hb; simp at hb; exact .inr (by omega)
          have hK : Keeps (fun b => pp = some b) WT w2 := by first | exact (Keeps.alloc WT _).trans (keeps_grown hg2) | exact ((Keeps.alloc WT _).trans (Keeps.drew _)).trans (keeps_grown hg2)
          have hppF : ∀ b, pp = some b → Fq b := fun b hb => HwoT.out.rw.pF b hb
          have hppl : ∀ b, pp = some b → b < WT.heap.size := fun b hb => HwoT.out.Fl b (hppF b hb)
          have hnew : ∀ b, (Value.slice tao r.l.length tcap).ownBlock = some b → pp ≠ some b := fun b hb e => by
            have h1 := Hto.out b hb
            have h2 := Hxx.out b e
            omega
          have hP := HwoT.out.pushed (v' := .slice (some ⟨g2, 0, none⟩) (rs.length + 1) cap2) (u := .slice tao r.l.length tcap) (r := r) hFq hK ho2 (fun b hb => (hkin3 b hb).imp id (fun e => by omega)) (keeps_bs hK HtbT.out (fun _ b hb => hnew b hb))
            (fun hp b hb e => by
              rcases hkin3 b e with e | e
              · exact hnew b hb e
              · obtain ⟨ao9, cap9, e9, -, -, -, hc9⟩ := HtbT.out
                obtain ⟨b9, off9, e10, hc10⟩ := hc9 hp
                have hl9 := World.block_lt_of_cell? WT _ (hc10 0 hp)
                injection e9 with e9 _ _
                rw [e9, e10] at hb
                injection hb with hb
                simp at hl9
                simp at hb
                omega) (fun b hb => by have := Hto.out b hb; omega)
          go_wp2_with fail
          go_roundw
          case rel =>
            refine ⟨rs ++ [r], vs ++ [.slice tao r.l.length tcap], _, _, _, by simp; omega, by simp [go_sem], Hgot.out.snoc (by rw [Hsec.out, Hnn.out]; exact Hr.out), fun y hy => ?_, hP, fun k hk => hk.1, ?_⟩
            · rcases List.mem_append.1 hy with hy | hy
              · exact Hok.out y hy
              · simp at hy; exact hy ▸ hokr
            · have hKx : Keeps (fun b => pp = some b ∨ b = x) WT (w2.setCell ⟨x, 4, none⟩ (.slice (some ⟨g2, 0, none⟩) (rs.length + 1) cap2)) := (hK.mono (fun b hb => Or.inl hb)).trans ((keeps_set w2 x 4 _).mono (fun b hb => Or.inr hb))
              exact HBT.out.trans (hKx.below (fun k hk => by
                rcases hk with e | e
                · have := hFq k (hppF k e); omega
                · omega) HBT.out.size)
          case measure => simp [intOf]; omega
      · obtain ⟨tk, tb, to, tm, te, hte, hnt⟩ := rtakeN _ _ hno (by rw [secOf_length hrl1]; omega) hse.lt
        have hnt1 := hnt _ _ hse
        have hte0 : ¬ te = 0 := by omega
        clear hnt hgb
        go_wp2_with fail
        refine hnt1.mono ?_
        rintro e W2 ⟨tv, rfl, htb, hto, hB2⟩
        obtain ⟨tao, tcap, rfl, -⟩ := id htb
        obtain ⟨WT, hWe⟩ : ∃ W, W2.alloc (.cells #[.int .i64 tk, .int .i64 tb, .int .i64 to, .slice tao 0 tcap, .int .i64 tm] 52) = W := ⟨_, rfl⟩
        have hBT : Below w.heap.size w WT := by
          rw [← hWe]
          exact ((hB.trans (hB1.mono hB.size)).trans (hB2.mono (by have := hB.size; have := hB1.size; omega))).alloc (by have := hB.size; have := hB1.size; have := hB2.size; omega) _
        have hscT : Scanned (secAt s base blocks) head (4 * blocks) rs := ⟨Hgot.out, hk, .inr (by rw [Hsec.out, Hnn.out]; exact hno)⟩
        obtain ⟨FqT, hFe⟩ : ∃ f, f = Fq := ⟨_, rfl⟩
        have hwoT : Wo WT x g base blocks head pp FqT v rs vs := by
          rw [← hWe, hFe]
          exact ((Hwo.out.mono hB1).mono hB2).mono ((Below.refl _ _).alloc (Nat.le_refl _) _)
        have hFqT : ∀ k, FqT k → x < k := by rw [hFe]; exact hFq
        have hokT := Hok.out
        have hlnT := hk
        clear hB hB1 hB2 Hwo htb hse hbs hob hnt1 hpc hrd
        obtain ⟨aoT, capT, rfl, hcT, -⟩ := owns_form hwoT.rw.row
        have c4T := hwoT.c4
        have hRT := hwoT.rw.rs
        have hWT := hwoT.wk h1 h2 (by omega) hh hlnT hokT
        have hFlT := hwoT.Fl
        have HWT := hide hWT
        have HRT := hide hRT
        have HscT := hide hscT
        have HBT := hide hBT
        have HhFqT := hide hFqT
        clear hwoT hWT hRT hscT hBT hFqT hokT
        go_wp2_with (at_builtin; refine wpList_append_want _ rfl (.const (.slice none 0 0)) (.tmp 114) rfl rfl (Wt.nil _ FqT) (fun h => by omega) hFlT (fun _ => rfl) _ rs rfl HRT.out (by simp; omega) ?_; intro ao7 cap7 wb7 vs7 w7 hW7 hk7 hn7 hw7)
        have hb7 : Below WT.heap.size WT w7 := hk7.below (fun k hk => by omega) (Nat.le_refl _)
        rw [List.nil_append] at hW7
        have hzx := Hx.out
        have hzT := HBT.out.size
        have hR7 : Rs w7 (fun k => w.heap.size ≤ k) (.slice ao7 rs.length cap7) rs := hW7.rs2 (F' := fun k => w.heap.size ≤ k) (fun k hk => by have := HhFqT.out k hk; omega) (fun hc => by rcases hw7 hc with h | h <;> omega)
        refine bodyPost_ret (v := .tuple #[.pointer (some ⟨x, 0, none⟩), .slice ao7 rs.length cap7, .int .i64 0]) (by simp [results, Tryz.results42, go_sem]) rfl ?_
        have hFz : ∀ k, FqT k → w.heap.size ≤ k := fun k hk => by have := HhFqT.out k hk; omega
        first
        | exact ⟨rs, x, .slice ao7 rs.length cap7, FqT, rfl, HscT.out, HWT.out.mono hb7, by omega, hFz, hR7, HBT.out.trans (hb7.mono hzT)⟩
        | exact ⟨rs, x, .slice ao7 rs.length cap7, rfl, HscT.out, FqT, HWT.out.mono hb7, by omega, hFz, hR7, HBT.out.trans (hb7.mono hzT)⟩
    · have hlt' : ¬ (rs.length : Int) < 4 * (blocks : Int) := by omega
      have hscT : Scanned (secAt s base blocks) head (4 * blocks) rs := ⟨hgot, hk, .inl (by omega)⟩
      have hwoT := hwo
      have hFqT := hFq
      have hBT := hB
      have hokT := hok
      have hlnT := hk
      obtain ⟨FqT, hFe⟩ : ∃ f, f = Fq := ⟨_, rfl⟩
      rw [← hFe] at hwoT hFqT
      obtain ⟨WT, hWe⟩ : ∃ W, W = wr := ⟨_, rfl⟩
      rw [← hWe] at hwoT hBT
      subst hWe
      clear hwo hgot hB hok hFq
      obtain ⟨aoT, capT, rfl, hcT, -⟩ := owns_form hwoT.rw.row
      have c4T := hwoT.c4
      have hRT := hwoT.rw.rs
      have hWT := hwoT.wk h1 h2 (by omega) hh hlnT hokT
      have hFlT := hwoT.Fl
      have HWT := hide hWT
      have HRT := hide hRT
      have HscT := hide hscT
      have HBT := hide hBT
      have HhFqT := hide hFqT
      clear hwoT hWT hRT hscT hBT hFqT hokT
      go_wp2_with (at_builtin; refine wpList_append_want _ rfl (.const (.slice none 0 0)) (.tmp 114) rfl rfl (Wt.nil _ FqT) (fun h => by omega) hFlT (fun _ => rfl) _ rs rfl HRT.out (by simp; omega) ?_; intro ao7 cap7 wb7 vs7 w7 hW7 hk7 hn7 hw7)
      have hb7 : Below WT.heap.size WT w7 := hk7.below (fun k hk => by omega) (Nat.le_refl _)
      rw [List.nil_append] at hW7
      have hzx := Hx.out
      have hzT := HBT.out.size
      have hR7 : Rs w7 (fun k => w.heap.size ≤ k) (.slice ao7 rs.length cap7) rs := hW7.rs2 (F' := fun k => w.heap.size ≤ k) (fun k hk => by have := HhFqT.out k hk; omega) (fun hc => by rcases hw7 hc with h | h <;> omega)
      refine bodyPost_ret (v := .tuple #[.pointer (some ⟨x, 0, none⟩), .slice ao7 rs.length cap7, .int .i64 0]) (by simp [results, Tryz.results42, go_sem]) rfl ?_
      have hFz : ∀ k, FqT k → w.heap.size ≤ k := fun k hk => by have := HhFqT.out k hk; omega
      first
      | exact ⟨rs, x, .slice ao7 rs.length cap7, FqT, rfl, HscT.out, HWT.out.mono hb7, by omega, hFz, hR7, HBT.out.trans (hb7.mono hzT)⟩
      | exact ⟨rs, x, .slice ao7 rs.length cap7, rfl, HscT.out, FqT, HWT.out.mono hb7, by omega, hFz, hR7, HBT.out.trans (hb7.mono hzT)⟩

end Go.Proofs.YtjhbljkoapbkfaaGreat
