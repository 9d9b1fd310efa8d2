/- CacheDoes: each answer, which blocks are in it, which are dirty, and the disk's bytes, are the document's, whatever is done. No conditions. -/
import Derived.Test.YtjcmmigbkhiplaaT10
import Derived.Deep.CutBlock
import Derived.Deep.DeepCutAuto
set_option linter.unusedSimpArgs false
set_option linter.unusedVariables false
namespace Go.Proofs.Ytjcmmigbkhiplaa
open Go.RowKit Go.Attic Go.ChangeShapes Go.WideShapes Go.Shelf

set_option maxRecDepth 100000 in
set_option maxHeartbeats 4000000 in
theorem does_walk (r : Int) (v : Value) (l : List OpX) (w : World) (hl : Ops w (fun k => k < w.heap.size) v l) (hll : l.length ≤ 140737488355328) :
    Calls Try.prog 3 #[.int .i64 r, v] w fun e w' => e = .returned (.bool true) ∧ Below w.heap.size w w' := by
  obtain ⟨ao, cap, rfl, hcap, hops⟩ := hl
  obtain ⟨q, hq⟩ : ∃ q, min l.length 100 = q := ⟨_, rfl⟩
  have Hops := hide hops
  have Hq := hide hq
  clear hops hq
  have hfront : ∀ (Q : Ending → World → Prop), True := fun _ => trivial
  clear hfront
  by_cases hr : 2 ≤ r ∧ r ≤ 256
  · obtain ⟨room, rfl⟩ : ∃ room : Nat, r = room := ⟨r.toNat, by omega⟩
    have hr0 : 2 ≤ room := by omega
    have hr2 : room ≤ 256 := by omega
    clear hr
    go_enter Try.func3, Try.ntmps3
    go_wp2_with fail
    refine (new_yes 9 w (by omega) (by omega)).mono ?_
    rintro e w1 ⟨g, m, rfl, hD1, hb1, hg1, hm1⟩
    have HD1 := hide hD1
    have hz1 := hb1.size
    clear hD1
    go_wp2_with fail
    refine (rnew_yes 9 w1 (by omega) (by omega)).mono ?_
    rintro e w2 ⟨g', q0, F0, rfl, hD2, hb2, hg2, hF2⟩
    have HD2 := hide hD2
    have hz2 := hb2.size
    clear hD2
    go_wp2_with fail
    refine (live_any _).mono ?_
    rintro e w3 ⟨rfl, hb3⟩
    have hz3 := hb3.size
    have hcn := cnew_yes (room := room) ((HD1.out.mono hb2).mono hb3) hr0 hr2
    have Hcn := hide hcn
    clear hcn
    go_wp2_with fail
    refine Hcn.out.mono ?_
    rintro e w4 ⟨c, S, rfl, hC, hb4, hS⟩
    have hz4 := hb4.size
    have hcr := rcnew_yes (room := room) ((HD2.out.mono hb3).mono hb4) hr0 hr2
    have Hcr := hide hcr
    have HC := hide hC
    clear hcr hC
    go_wp2_with fail
    refine Hcr.out.mono ?_
    rintro e w5 ⟨c', S', rfl, hR, hb5, hS'⟩
    have hz5 := hb5.size
    have hb05 : Below w.heap.size w w5 := (((hb1.trans (hb2.mono hz1)).trans (hb3.mono (by omega))).trans (hb4.mono (by omega))).trans (hb5.mono (by omega))
    have hI0 : DI w w5 c g c' g' room 0 := by
      have hC5 := HC.out.mono hb5
      have hl1 := HD1.out.ownLt
      have hl2 := HD2.out.ownLt
      have hlC := HC.out.lt
      refine ⟨newS 9, [], ⟨S, S', hC5, hR, fun k hk hk' => ?_, fun k hk => ⟨by omega, fun hs => ?_, fun hs => ?_⟩⟩, by simp, by simp [newS, ofS], by simp [newS, ofS], hb05⟩
      · have := hlC k hk
        rcases hS' k hk' with h' | h'
        · have h2 := hl2 k h'
          have h2' : w1.heap.size ≤ k := by
            rcases h' with e | e
            · omega
            · exact hF2 k e
          rcases hS k hk with h | h
          · have := hl1 k h; omega
          · omega
        · omega
      · rcases hS k hs with h | h
        · rcases h with e | e | e
          · omega
          · omega
          · exact e.elim
        · omega
      · rcases hS' k hs with h | h
        · rcases h with e | e
          · omega
          · have := hF2 k e; omega
        · omega
    have HI0 := hide hI0
    clear hI0 hR hS hS' HC HD1 HD2 Hcr Hcn hg1 hm1 hg2 hF2 hb1 hb2 hb3 hb4 hb5 hb05 hz1 hz2 hz3 hz4 hz5
    have hq100 : q ≤ 100 := by have := Hq.out; omega
    have hqc : q ≤ cap := by have := Hq.out; omega
    go_wp2_with fail
    rw [show (min (l.length : Int) 100) = ((q : Nat) : Int) by have := Hq.out; omega, show (max ((q : Nat) : Int) 0) = ((q : Nat) : Int) by omega, Int.toNat_natCast]
    go_loopw [71] (fun iv wr => ∃ k : Nat, k ≤ q ∧ iv = .int .i64 (k : Int) ∧ Hid (DI w wr c g c' g' room k)) (fun iv _ => q - (intOf iv).toNat)
    case atStart => exact ⟨0, by omega, rfl, HI0⟩
    case round =>
      clear HI0
      obtain ⟨k, hk, rfl, HP⟩ := hrel
      by_cases hkq : k < q
      · have hkl : k < l.length := by have := Hq.out; omega
        obtain ⟨s, A, hT, hlt, hpl, hops, hB⟩ := HP.out
        obtain ⟨ob, oo, rfl, hoat⟩ := Hops.out (by omega)
        obtain ⟨vb, hx⟩ := hoat k hkl
        have hzB := hB.size
        have hx1 := hx.keeps (S := fun b => w.heap.size ≤ b) ⟨hB.os, hB.tape, hB.output, hB.size, fun b hb hn => hB.block b (by omega)⟩ (fun b hb h => by omega)
        generalize l[k] = x at *
        have x0 := hx1.c0
        have x1 := hx1.c1
        have x2 := hx1.c2
        have x3 := hx1.c3
        have hxi := hx1.i0
        have hxo := hx1.o0
        obtain ⟨pa, pc, rfl, -⟩ := id hx1.bs
        obtain ⟨wb, hwb⟩ : ∃ wb, wr.alloc (.cells #[.int .i64 x.d, .int .i64 x.i, .int .i64 x.o, .slice pa x.b.length pc] 39) = wb := ⟨_, rfl⟩
        have kb : Below wr.heap.size wr wb := by rw [← hwb]; exact (Below.refl _ _).alloc (Nat.le_refl _) _
        have hzb : wb.heap.size = wr.heap.size + 1 := by rw [← hwb]; simp
        have y0 : wb.cell? ⟨wr.heap.size, 0, none⟩ = some (.int .i64 x.d) := by rw [← hwb]; simp
        have y1 : wb.cell? ⟨wr.heap.size, 1, none⟩ = some (.int .i64 x.i) := by rw [← hwb]; simp
        have y2 : wb.cell? ⟨wr.heap.size, 2, none⟩ = some (.int .i64 x.o) := by rw [← hwb]; simp
        have y3 : wb.cell? ⟨wr.heap.size, 3, none⟩ = some (.slice pa x.b.length pc) := by rw [← hwb]; simp
        have hTb := hT.add kb
        have hxb := hx1.keeps (Keeps.of_below (S := fun _ => False) kb) (fun _ _ => id)
        have hbF := hx.bF
        have hfew := hT.few
        have hnd := hT.nodup
        have hPw : ∀ b, b < w.heap.size → (b < w.heap.size ∨ (wr.heap.size ≤ b ∧ b < wb.heap.size)) := fun b hb => .inl hb
        have hPD : (wr.heap.size < w.heap.size ∨ (wr.heap.size ≤ wr.heap.size ∧ wr.heap.size < wb.heap.size)) := .inr (by omega)
        have hwz : w.heap.size ≤ wb.heap.size := by omega
        obtain ⟨P, hPdef⟩ : ∃ P : Nat → Prop, (fun b => b < w.heap.size ∨ (wr.heap.size ≤ b ∧ b < wb.heap.size)) = P := ⟨_, rfl⟩
        have hPw' : ∀ b, b < w.heap.size → P b := by rw [← hPdef]; exact hPw
        have hPD' : P wr.heap.size := by rw [← hPdef]; exact hPD
        rw [hPdef] at hTb
        have HTb := hide hTb
        have Hx := hide hxb
        have Hlt := hide hlt
        have Hnd := hide hnd
        have Hnext := hide (fun (P' : Nat → Prop) (w4 : World) (s1 : St) (A1 : List En) (hb : Below w.heap.size wb w4) (hT : Tx P' w4 c g c' g' room 9 (k + 1) s1 A1 s1 A1) hP hlt hp ho => DI.next hB kb hb hT hP hlt hp ho)
        clear hx hx1 hxb hoat HP hlt hnd hT hTb hPw hPD hPdef
        go_upto_block 2 with fail
        go_cut [14] (fun s14 wx => s14 = .bool true ∧ Hid (DI w wx c g c' g' room (k + 1)))
        case first =>
          by_cases h0 : x.d = 0
          · have h0b : (x.d == 0) = true := by simp [h0]
            have hA := HTb.out.readA x.i (by omega) (by omega) (by omega)
            have hBf := fun (P' : Nat → Prop) (W : World) (Q' : Nat) (A0 : List En) (hT : Tx P' W c g c' g' room 9 Q' s A0 s A) => hT.readB (by omega) Hnd.out x.i (by omega) (by omega) hr2
            have hrlt := readC_lt (room := room) (n := 9) (s := s) (A := A) (i := x.i) Hlt.out
            have hbsf := readC_bs (room := room) (n := 9) (s := s) (A := A) (i := x.i)
            generalize readC room 9 s A x.i = R at *
            obtain ⟨A1, l1, er⟩ := R
            have Hbf := hide hBf
            have Hrlt := hide hrlt
            have Hbsf := hide hbsf
            clear hBf hrlt hbsf h0
            go_wp2_with fail
            refine hA.mono ?_
            rintro e w4 ⟨v4, rfl, ho4, hT4, hk4⟩
            obtain ⟨S4, hC4⟩ := hT4.cd
            obtain ⟨hl1, hlt1⟩ := Hbsf.out hC4.en
            try simp only at hl1 hlt1 ho4
            have y1' := hk4.cell y1 (fun h => h hPD')
            have hz4 := hk4.size
            have hb4 := nb hk4 hPw' hwz
            obtain ⟨L, hL⟩ : ∃ L, l1.length = L := ⟨_, rfl⟩
            have Hl1 := hide hL
            have HoD := hide ho4
            rw [hL] at ho4 hl1
            obtain ⟨a4, c4, rfl⟩ := owns_slice ho4
            have hB := Hbf.out _ w4 _ _ hT4
            have HB := hide hB
            have Hlt1 := hide hlt1
            clear hT4 hC4 hB hL hlt1 hA
            go_wp2_with fail
            refine HB.out.mono ?_
            rintro e w5 ⟨v5, rfl, ho5, hT5, hk5⟩
            try simp only at ho5
            have hz5 := hk5.size
            have ho45 := hk5.owns HoD.out (fun b hb h => h (.inr hb))
            have heq := equal_any (.slice a4 L c4) v5 l1 l1 w5 (Bs.of_owns ho45 Hlt1.out) (Bs.of_owns ho5 Hlt1.out)
            rw [decide_eq_true rfl] at heq
            rw [Hl1.out] at ho5 ho45
            obtain ⟨a5, c5, rfl⟩ := owns_slice ho5
            have hb5 := hb4.trans (nb hk5 (fun b hb => .inl (hPw' b hb)) (by omega))
            have hT5' := hT5.sub (P' := fun b => P b ∨ (Value.slice a4 L c4).ownBlock = some b) (fun b hb => .inl hb)
            have HT5 := hide hT5'
            have Heq := hide heq
            clear heq ho5 hT5 hT5' ho4 HB HoD
            go_wp2_with fail
            refine Heq.out.mono ?_
            rintro e w' ⟨rfl, rfl⟩
            go_wp2_with fail
            go_loopw [103] (fun iv wi => ∃ (j : Nat) (xs : List Value), j ≤ L ∧ iv = .int .i64 (j : Int) ∧ wi.ownsRow wb.heap.size 5 1 (.slice a4 L c4) L xs ∧ Keeps (fun b => (Value.slice a4 L c4).ownBlock = some b) w5 wi) (fun iv _ => L - (intOf iv).toNat)
            case atStart => exact ⟨0, _, by omega, rfl, ho45, Keeps.refl _ _⟩
            case round =>
              obtain ⟨j, xs, hj, rfl, hrow, hki⟩ := hrel
              clear ho45
              by_cases hjL : j < L
              · obtain ⟨b4, hb4a⟩ : ∃ b, a4 = some ⟨b, 0, none⟩ := by
                  obtain ⟨a', cc, e, _, hg⟩ := owns_form hrow
                  injection e with e1 e2 e3
                  obtain ⟨b, rfl, _⟩ := hg (by omega)
                  exact ⟨b, e1⟩
                subst hb4a
                have hxl : j < xs.length := by have := hrow.1; omega
                have hcj : wr.cell? ⟨b4, j, none⟩ = some xs[j] := by rw [hrow.cellAt j (by omega), List.getElem?_eq_getElem hxl]
                have hfj := hrow.frozenAt j
                have hst := (hrow.stored j (.int .u8 77)).1
                have hk6 := hki.trans (Keeps.setCell (S := fun b => (Value.slice (some ⟨b4, 0, none⟩) L c4).ownBlock = some b) (g := b4) (o := j) wr rfl (.int .u8 77))
                have Hst := hide hst
                have Hk6 := hide hk6
                generalize xs[j] = xj at *
                clear hst hk6 hrow hki
                go_wp2_with fail
                go_roundw
                case rel => exact ⟨j + 1, _, by omega, by go_num, Hst.out, Hk6.out⟩
                case measure => simp [intOf]; omega
              · obtain rfl : j = L := by omega
                have hDI := Hnext.out _ wr s A1 (hb5.trans (hki.below (fun b hb => by have := owns_lt hrow b hb; omega) (by omega))) (HT5.out.keeps hki (fun b hb => .inr hb)) (fun b hb => .inl (hPw' b hb)) Hrlt.out (by omega) (by omega)
                have HDI := hide hDI
                clear hDI hrow hki HT5
                go_wp2_with fail
                go_meet
                case rel => exact ⟨rfl, HDI⟩
          by_cases h2 : x.d = 2
          · have h0b : (x.d == 0) = false := by simp [h0]
            have h1b : (x.d == 1) = false := by simp [h2]
            have h2b : (x.d == 2) = true := by simp [h2]
            have hA := HTb.out.cleanA hr2 (by omega) (by omega)
            have hBf := fun (P' : Nat → Prop) (W : World) (Q' : Nat) (s0 : St) (A0 : List En) (hT : Tx P' W c g c' g' room 9 Q' s0 A0 s A) => hT.cleanB (by omega) Hnd.out Hlt.out (by omega) (by omega)
            have hclt := cleanC_lt (n := 9) (s := s) (A := A) Hlt.out
            have hcf := cleanC_few (n := 9) (s := s) (A := A) (by omega)
            generalize cleanC 9 s A = R at *
            obtain ⟨s1, A1, er⟩ := R
            try simp only at hcf
            have Hbf := hide hBf
            have Hclt := hide hclt
            clear hBf hclt h0 h2
            go_wp2_with fail
            refine hA.mono ?_
            rintro e w4 ⟨rfl, hT4, hk4⟩
            have hz4 := hk4.size
            have hb4 := nb hk4 hPw' hwz
            have hB := Hbf.out _ w4 _ _ _ hT4
            have HB := hide hB
            clear hB hT4 hA
            go_wp2_with fail
            refine HB.out.mono ?_
            rintro e w5 ⟨rfl, hT5, hk5⟩
            have hDI := Hnext.out _ w5 s1 A1 (hb4.trans (nb hk5 hPw' (by omega))) (hT5.more (Nat.le_succ _)) hPw' Hclt.out (by omega) (by omega)
            have HDI := hide hDI
            clear hDI hT5 HB
            go_wp2_with fail
            go_meet
            case rel => exact ⟨rfl, HDI⟩
          by_cases h5 : x.d = 5
          · have h0b : (x.d == 0) = false := by simp [h0]
            have h1b : (x.d == 1) = false := by simp [h5]
            have h2b : (x.d == 2) = false := by simp [h5]
            have h3b : (x.d == 3) = false := by simp [h5]
            have h4b : (x.d == 4) = false := by simp [h5]
            have h5b : (x.d == 5) = true := by simp [h5]
            have hA := HTb.out.powerA
            have hBf := fun (P' : Nat → Prop) (W : World) (Q' : Nat) (s0 : St) (A0 : List En) (hT : Tx P' W c g c' g' room 9 Q' s0 A0 s A) => hT.powerB
            have hcf := restartS_few s
            generalize restartS s = R at *
            obtain ⟨s1, er⟩ := R
            try simp only at hcf
            have Hbf := hide hBf
            clear hBf h0 h2 h5
            go_wp2_with fail
            refine hA.mono ?_
            rintro e w4 ⟨rfl, hT4, hk4⟩
            have hz4 := hk4.size
            have hb4 := nb hk4 hPw' hwz
            have hB := Hbf.out _ w4 _ _ _ hT4
            have HB := hide hB
            clear hB hT4 hA
            go_wp2_with fail
            refine HB.out.mono ?_
            rintro e w5 ⟨rfl, hT5, hk5⟩
            have hDI := Hnext.out _ w5 s1 A (hb4.trans (nb hk5 hPw' (by omega))) (hT5.more (Nat.le_succ _)) hPw' Hlt.out (by omega) (by omega)
            have HDI := hide hDI
            clear hDI hT5 HB
            go_wp2_with fail
            go_meet
            case rel => exact ⟨rfl, HDI⟩
          by_cases h1 : x.d = 1
          · have h0b : (x.d == 0) = false := by simp [h0]
            have h1b : (x.d == 1) = true := by simp [h1]
            have hcl := clone_any _ x.b wb Hx.out.bs Hx.out.pl
            have hwlt := writeC_lt (room := room) (n := 9) (s := s) (A := A) (i := x.i) (off := x.o) (b := x.b) Hlt.out
            have hAf := fun (P' : Nat → Prop) (W : World) (s0 : St) (A0 : List En) (hT : Tx P' W c g c' g' room 9 k s A s0 A0) (vb : Value) (hvb : Bs W vb x.b) hvP => hT.writeA x.i x.o vb x.b hvb hvP Hx.out.pl (by omega) (by omega) (by omega)
            have hBf := fun (P' : Nat → Prop) (W : World) (Q' : Nat) (A0 : List En) (hT : Tx P' W c g c' g' room 9 Q' s A0 s A) (vb : Value) (hvb : Bs W vb x.b) hvP => hT.writeB (by omega) Hnd.out x.i x.o vb x.b hvb hvP Hx.out.pl (by omega) (by omega) hr2
            generalize writeC room 9 s A x.i x.o x.b = R at *
            obtain ⟨A1, er⟩ := R
            try simp only at hwlt hAf hBf
            have Hwlt := hide hwlt
            have Haf := hide hAf
            have Hbf := hide hBf
            clear hAf hBf hwlt h0 h2 h5 h1
            go_wp2_with fail
            refine hcl.mono ?_
            rintro e w4 ⟨v4, rfl, ho4, hb4⟩
            have hz4 := hb4.size
            have hT4 := HTb.out.add hb4
            have k4 := Keeps.of_below (S := fun _ => False) hb4
            have z1 := k4.cell y1 id
            have z2 := k4.cell y2 id
            have z3 := k4.cell y3 id
            have Ho4 := hide ho4
            obtain ⟨a4, c4, rfl⟩ := owns_slice ho4
            have hbs4 : Bs w4 (.slice a4 x.b.length c4) x.b := Bs.of_owns ho4 Hx.out.bs.lt
            have hvb4 : Bs w4 (.slice pa x.b.length pc) x.b := Hx.out.bs.mono hb4
            obtain ⟨P2, hP2⟩ : ∃ P2 : Nat → Prop, (fun j => P j ∨ (wb.heap.size ≤ j ∧ j < w4.heap.size)) = P2 := ⟨_, rfl⟩
            rw [hP2] at hT4
            have h2w : ∀ b, b < w.heap.size → P2 b := fun b hb => by rw [← hP2]; exact .inl (hPw' b hb)
            have h2D : P2 wr.heap.size := by rw [← hP2]; exact .inl hPD'
            have h2v : ∀ b, (Value.slice a4 x.b.length c4).ownBlock = some b → P2 b := fun b hb => by rw [← hP2]; exact .inr ⟨owns_lt Ho4.out b hb, owns_lt' Ho4.out b hb⟩
            have h2b : 0 < x.b.length → ∀ b, (Value.slice pa x.b.length pc).ownBlock = some b → P2 b := fun hp b hb => h2w b (hbF hp b hb)
            have Td : Tx P2 w4.drew c g c' g' room 9 k s A s A := hT4.mono (Below.refl _ w4).drew
            have Ud : Bs w4.drew (.slice a4 x.b.length c4) x.b := hbs4.drew
            have Vd : Bs w4.drew (.slice pa x.b.length pc) x.b := hvb4.drew
            have Sd : w4.drew.cell? ⟨wr.heap.size, 1, none⟩ = some (.int .i64 x.i) ∧ w4.drew.cell? ⟨wr.heap.size, 2, none⟩ = some (.int .i64 x.o) ∧ w4.drew.cell? ⟨wr.heap.size, 3, none⟩ = some (.slice pa x.b.length pc) := ⟨z1, z2, z3⟩
            have hHeld : ∀ W, Keeps (fun b => ¬ P2 b) w4.drew W → (Bs W (.slice a4 x.b.length c4) x.b ∧ Bs W (.slice pa x.b.length pc) x.b) ∧ W.cell? ⟨wr.heap.size, 1, none⟩ = some (.int .i64 x.i) ∧ W.cell? ⟨wr.heap.size, 2, none⟩ = some (.int .i64 x.o) ∧ W.cell? ⟨wr.heap.size, 3, none⟩ = some (.slice pa x.b.length pc) := fun W hW =>
              ⟨⟨hW.bs Ud (fun b hb h => h (h2v b hb)), keeps_bs hW Vd (fun hp b hb h => h (h2b hp b hb))⟩, hW.cell Sd.1 (fun h => h h2D), hW.cell Sd.2.1 (fun h => h h2D), hW.cell Sd.2.2 (fun h => h h2D)⟩
            have HHeld := hide hHeld
            have H2v := hide h2v
            have H2b := hide h2b
            have H2w := hide h2w
            have HTd := hide Td
            have HUd := hide Ud
            have HVd := hide Vd
            clear hHeld h2v h2b h2w hT4 hbs4 hvb4 ho4 hP2 z1 z2 z3 Td Ud Vd HTb
            go_wp2_with fail
            go_region_held3 (fun W => W.cell? ⟨wr.heap.size, 1, none⟩ = some (.int .i64 x.i) ∧ W.cell? ⟨wr.heap.size, 2, none⟩ = some (.int .i64 x.o) ∧ W.cell? ⟨wr.heap.size, 3, none⟩ = some (.slice pa x.b.length pc))
              (first | exact Sd | exact Sb | exact Sa)
              (first
                | (go_at_call 16; refine (Haf.out P2 _ _ _ (by first | exact HTd.out | exact Tb.out) _ (by first | exact HUd.out | exact Ub.out) (fun _ => H2v.out)).mono ?_; rintro e wa ⟨rfl, Ta0, ka0⟩
                   have Ka := hide (show Keeps (fun b => ¬ P2 b) w4.drew wa by first | exact ka0 | exact Kb.out.trans ka0)
                   have Ta := hide Ta0
                   obtain ⟨⟨Ua0, Va0⟩, Sa⟩ := HHeld.out wa Ka.out
                   have Va := hide Va0
                   clear Ta0 ka0 Ua0 Va0)
                | (go_at_call 17; refine (Hbf.out P2 _ _ _ (by first | exact HTd.out | exact Ta.out) _ (by first | exact HVd.out | exact Va.out) H2b.out).mono ?_; rintro e wB ⟨rfl, Tb0, kb0⟩
                   have Kb := hide (show Keeps (fun b => ¬ P2 b) w4.drew wB by first | exact kb0 | exact Ka.out.trans kb0)
                   have Tb := hide Tb0
                   obtain ⟨⟨Ub0, Vb0⟩, Sb⟩ := HHeld.out wB Kb.out
                   have Ub := hide Ub0
                   clear Tb0 kb0 Ub0 Vb0))
            have hrowB := Kb.out.owns (World.ownsRow.drew Ho4.out) (fun b hb h => h (H2v.out b hb))
            have hzw4 : w.heap.size ≤ w4.heap.size := by omega
            have hbB : Below w.heap.size wb wB := (hb4.mono hwz).trans ((Below.refl w.heap.size w4).drew.trans (nb Kb.out H2w.out hzw4))
            have hzBB : w4.heap.size ≤ wB.heap.size := Kb.out.size
            have hLm := Hx.out.pl
            obtain ⟨L, hL⟩ : ∃ L, x.b.length = L := ⟨_, rfl⟩
            have Hb := hide (show ∀ y ∈ x.b, y < 256 from Hx.out.bs.lt)
            have HL := hide hL
            rw [hL] at hrowB H2v hLm ⊢
            clear HHeld Ho4 Haf Hbf HTd HUd HVd Va Ub Sa Sb Sd Ka Ta Hx hL
            go_wp2_with fail
            go_loopw [133] (fun iv wi => ∃ (j : Nat) (xs : List Value), j ≤ L ∧ iv = .int .i64 (j : Int) ∧ wi.ownsRow wb.heap.size 5 1 (.slice a4 L c4) L xs ∧ (∀ i, j ≤ i → xs[i]? = (cellsB x.b)[i]?) ∧ Keeps (fun b => (Value.slice a4 L c4).ownBlock = some b) wB wi) (fun iv _ => L - (intOf iv).toNat)
            case atStart => exact ⟨0, _, by omega, rfl, hrowB, fun _ _ => rfl, Keeps.refl _ _⟩
            case round =>
              obtain ⟨j, xs, hj, rfl, hrow, hxs, hki⟩ := hrel
              clear hrowB
              by_cases hjL : j < L
              · obtain ⟨b4, hb4a⟩ : ∃ b, a4 = some ⟨b, 0, none⟩ := by
                  obtain ⟨a', cc, e, _, hg⟩ := owns_form hrow
                  injection e with e1 e2 e3
                  obtain ⟨b, rfl, _⟩ := hg (by omega)
                  exact ⟨b, e1⟩
                subst hb4a
                have hjb : j < x.b.length := by have := HL.out; omega
                have hcj : wr.cell? ⟨b4, j, none⟩ = some (.int .u8 ((x.b[j] : Nat) : Int)) := by rw [hrow.cellAt j (by omega), hxs j (Nat.le_refl _)]; simp [cellsB, hjb]
                have hfj := hrow.frozenAt j
                have hnb := Hb.out _ (List.getElem_mem hjb)
                have hst : ∀ u : Value, (wr.setCell ⟨b4, j, none⟩ u).ownsRow wb.heap.size 5 1 (.slice (some ⟨b4, 0, none⟩) L c4) L (xs.set j u) := fun u => (hrow.stored j u).1
                have hxs' : ∀ (u : Value) i, j + 1 ≤ i → (xs.set j u)[i]? = (cellsB x.b)[i]? := fun u i hi => by rw [List.getElem?_set_ne (by omega)]; exact hxs i (by omega)
                have hk6 : ∀ u : Value, Keeps (fun b => (Value.slice (some ⟨b4, 0, none⟩) L c4).ownBlock = some b) wB (wr.setCell ⟨b4, j, none⟩ u) := fun u => hki.trans (Keeps.setCell (S := fun b => (Value.slice (some ⟨b4, 0, none⟩) L c4).ownBlock = some b) (g := b4) (o := j) wr rfl u)
                have Hst := hide hst
                have Hk6 := hide hk6
                have Hxs' := hide hxs'
                generalize x.b[j] = xj at *
                clear hst hk6 hrow hki hxs hxs'
                go_wp2_with fail
                go_roundw
                case rel => exact ⟨j + 1, _, by omega, by go_num, Hst.out _, Hxs'.out _, Hk6.out _⟩
                case measure => simp [intOf]; omega
              · obtain rfl : j = L := by omega
                have hDI := Hnext.out _ wr s A1 (hbB.trans (hki.below (fun b hb => by have := owns_lt hrow b hb; omega) (by omega))) (Tb.out.keeps hki H2v.out) H2w.out Hwlt.out (by omega) (by omega)
                have HDI := hide hDI
                clear hDI hrow hki hxs Tb Kb
                go_wp2_with fail
                go_meet
                case rel => exact ⟨rfl, HDI⟩
          by_cases h3 : x.d = 3
          · have h0b : (x.d == 0) = false := by simp [h0]
            have h1b : (x.d == 1) = false := by simp [h1]
            have h2b : (x.d == 2) = false := by simp [h2]
            have h3b : (x.d == 3) = true := by simp [h3]
            obtain ⟨Z, hZ⟩ : ∃ Z, madeCells (Value.int .u8 0).cells (256 * 1) = Z := ⟨_, rfl⟩
            have hZl : Z.toList = cellsB (List.replicate 256 0) := by rw [← hZ]; exact made_zeros 256
            have hmk : ∀ W : World, (Instr.makeSlice 37 (.int .i64 256) (.int .i64 256)).run Try.prog W = .ok (.slice (some ⟨W.heap.size, 0, none⟩) 256 256) (W.alloc (.cells Z 5)) := fun W => by rw [← hZ]; kernel_rfl
            have hoz : ∀ W : World, (W.alloc (.cells Z 5)).ownsRow 0 5 1 (.slice (some ⟨W.heap.size, 0, none⟩) 256 256) 256 (cellsB (List.replicate 256 0)) := fun W => by
              have hl : (cellsB (List.replicate 256 0)).length = 256 := by rw [cellsB_length, List.length_replicate]
              have hs : Z.size = 256 := by rw [← Array.length_toList, hZl, hl]
              refine ⟨by rw [hl], .inr ⟨W.heap.size, 256, Z, rfl, by omega, World.alloc_heap_new W _, Nat.le_refl _, by unfold maxLen; omega, by omega, ?_⟩⟩
              rw [hZl, List.take_of_length_le (by omega)]
            have hlbb : (splice (List.replicate 256 0) 0 (x.b.take 256)).length = 256 := by rw [length_splice _ _ _ (by simp; omega)]; simp
            have hbbl : ∀ y ∈ splice (List.replicate 256 0) 0 (x.b.take 256), y < 256 := splice_lt (fun y hy => by rw [List.eq_of_mem_replicate hy]; omega) (fun y hy => Hx.out.bs.lt y (List.mem_of_mem_take hy))
            obtain ⟨bb, hbb⟩ : ∃ bb, splice (List.replicate 256 0) 0 (x.b.take 256) = bb := ⟨_, rfl⟩
            rw [hbb] at hlbb hbbl
            have hAf := fun (P' : Nat → Prop) (W : World) (s0 : St) (A0 : List En) (hT : Tx P' W c g c' g' room 9 k s A s0 A0) (vb : Value) (hvb : Bs W vb bb) => hT.diskA x.i vb bb hvb (by omega) (by omega) (by omega)
            have hBf := fun (P' : Nat → Prop) (W : World) (Q' : Nat) (A1 : List En) (s1 : St) (hT : Tx P' W c g c' g' room 9 Q' s1 A1 s A) (vb : Value) (hvb : Bs W vb bb) => hT.diskB x.i vb bb hvb (by omega) (by omega) (by omega)
            have hp1 := writeS_pend s 9 x.i bb
            have ho1 := writeS_ops s 9 x.i bb
            generalize writeS s 9 x.i bb = R at *
            obtain ⟨s1, er⟩ := R
            try simp only at hAf hBf hp1 ho1
            have Haf := hide hAf
            have Hbf := hide hBf
            have Hbbl := hide hbbl
            have Hlbb := hide hlbb
            have Hbb := hide hbb
            have ho0 := hoz wb
            have hsz0 : (wb.alloc (.cells Z 5)).heap.size = wb.heap.size + 1 := by simp
            have hka0 : Below wb.heap.size wb (wb.alloc (.cells Z 5)) := (Below.refl _ _).alloc (Nat.le_refl _) _
            have k0 := Keeps.of_below (S := fun _ => False) hka0
            have z1 := k0.cell y1 id
            have z3 := k0.cell y3 id
            have hbsx := Hx.out.bs.mono hka0
            have hkey : ∀ w4, w4.ownsRow 0 5 1 (.slice (some ⟨wb.heap.size, 0, none⟩) 256 256) 256 (cellsB bb) → Keeps (fun b => b = wb.heap.size) (wb.alloc (.cells Z 5)) w4 →
                Below wb.heap.size wb w4 ∧ w4.cell? ⟨wr.heap.size, 1, none⟩ = some (.int .i64 x.i) ∧ Bs w4 (.slice (some ⟨wb.heap.size, 0, none⟩) 256 256) bb ∧ wb.heap.size < w4.heap.size := fun w4 hr hk =>
              ⟨hka0.trans (hk.below (fun b e => by have e' : b = wb.heap.size := e; omega) (by omega)), hk.cell z1 (fun e => by have e' : wr.heap.size = wb.heap.size := e; omega), by have := Bs.of_owns (show w4.ownsRow 0 5 1 (.slice (some ⟨wb.heap.size, 0, none⟩) 256 256) bb.length (cellsB bb) by rw [Hlbb.out]; exact hr) Hbbl.out; exact this, by have := hk.size; omega⟩
            have Hkey := hide hkey
            have Hbsx := hide hbsx
            have Ho0 := hide ho0
            have Hoff := hide (Hx.out.pl)
            clear hAf hBf hbbl hlbb hbb hkey hbsx ho0 hoz hZ hZl h0 h1 h2 h3 h5 z1 hzb
            by_cases hb0 : x.b.length = 0
            · have hce : ∀ (W : World) (ty : TypeId) (d : Option Addr) (dl dc : Nat), (Builtin.copy_ #[37, 37] ty #[.slice d dl dc, .slice pa x.b.length pc]).run Try.prog W = .ok (goInt 0) W := fun W ty d dl dc => run_copy_none W 37 37 ty 5 d pa dl dc x.b.length pc Try.underlying37 size5 (by rw [hb0]; exact Nat.zero_min _)
              have hnil : x.b = [] := List.length_eq_zero_iff.1 hb0
              have hk4 := Hkey.out (wb.alloc (.cells Z 5)) (by rw [← Hbb.out, hnil]; simpa [splice] using Ho0.out) (Keeps.refl _ _)
              obtain ⟨hb4, y14, hbs4, hz4⟩ := hk4
              have Hb4 := hide hb4
              have Hbs4 := hide hbs4
              clear hb0 hnil hb4 hbs4 hz4 Hkey Ho0 Hbsx
              go_wp2_with fail
              have hzb4 := Hb4.out.size
              have hT4 := HTb.out.add Hb4.out
              obtain ⟨P2, hP2⟩ : ∃ P2 : Nat → Prop, (fun j => P j ∨ (wb.heap.size ≤ j ∧ j < ((wb.alloc (.cells Z 5))).heap.size)) = P2 := ⟨_, rfl⟩
              rw [hP2] at hT4
              have h2w : ∀ b, b < w.heap.size → P2 b := fun b hb => by rw [← hP2]; exact .inl (hPw' b hb)
              have h2D : P2 wr.heap.size := by rw [← hP2]; exact .inl hPD'
              have h2v : P2 wb.heap.size := by rw [← hP2]; exact .inr ⟨Nat.le_refl _, by simp⟩
              have HTd := hide (show Tx P2 (wb.alloc (.cells Z 5)).drew c g c' g' room 9 k s A s A from hT4.mono (Below.refl _ (wb.alloc (.cells Z 5))).drew)
              have HUd := hide (show Bs (wb.alloc (.cells Z 5)).drew (.slice (some ⟨wb.heap.size, 0, none⟩) 256 256) bb from Hbs4.out.drew)
              have Sd : (wb.alloc (.cells Z 5)).drew.cell? ⟨wr.heap.size, 1, none⟩ = some (.int .i64 x.i) := y14
              have hHeld : ∀ W, Keeps (fun b => ¬ P2 b) (wb.alloc (.cells Z 5)).drew W → Bs W (.slice (some ⟨wb.heap.size, 0, none⟩) 256 256) bb ∧ W.cell? ⟨wr.heap.size, 1, none⟩ = some (.int .i64 x.i) := fun W hW => ⟨hW.bs HUd.out (fun b hb h => by cases hb; exact h h2v), hW.cell Sd (fun h => h h2D)⟩
              have HHeld := hide hHeld
              have H2w := hide h2w
              clear hHeld h2w hT4 hP2 HTb Hbs4
              go_wp2_with fail
              go_region_held3 (fun W => W.cell? ⟨wr.heap.size, 1, none⟩ = some (.int .i64 x.i))
                (first | exact Sd | exact Sb | exact Sa)
                (first
                  | (go_at_call 20; refine (Haf.out P2 _ _ _ (by first | exact HTd.out | exact Tb.out) _ (by first | exact HUd.out | exact Ub.out)).mono ?_; rintro e wa ⟨rfl, Ta0, ka0⟩
                     have Ka := hide (show Keeps (fun b => ¬ P2 b) (wb.alloc (.cells Z 5)).drew wa by first | exact ka0 | exact Kb.out.trans ka0)
                     have Ta := hide Ta0
                     obtain ⟨Ua0, Sa⟩ := HHeld.out wa Ka.out
                     have Ua := hide Ua0
                     clear Ta0 ka0 Ua0)
                  | (go_at_call 21; refine (Hbf.out P2 _ _ _ _ (by first | exact HTd.out | exact Ta.out) _ (by first | exact HUd.out | exact Ua.out)).mono ?_; rintro e wB ⟨rfl, Tb0, kb0⟩
                     have Kb := hide (show Keeps (fun b => ¬ P2 b) (wb.alloc (.cells Z 5)).drew wB by first | exact kb0 | exact Ka.out.trans kb0)
                     have Tb := hide Tb0
                     obtain ⟨Ub0, Sb⟩ := HHeld.out wB Kb.out
                     have Ub := hide Ub0
                     clear Tb0 kb0 Ub0))
              have hDI := Hnext.out _ wB s1 A ((Hb4.out.mono hwz).trans ((Below.refl w.heap.size (wb.alloc (.cells Z 5))).drew.trans (nb Kb.out H2w.out (show w.heap.size ≤ (wb.alloc (.cells Z 5)).heap.size by omega)))) (Tb.out.more (Nat.le_succ _)) H2w.out Hlt.out (by omega) (by omega)
              have HDI := hide hDI
              clear hDI HHeld Haf Hbf HTd HUd Sa Sb Sd Ka Ta Tb Kb Ua Ub
              go_wp2_with fail
              go_meet
              case rel => exact ⟨rfl, HDI⟩
            · obtain ⟨ad, rfl⟩ : ∃ ad, pa = some ad := by
                cases pa with
                | none => have := Hbsx.out.none.1; omega
                | some ad => exact ⟨ad, rfl⟩
              have hsrc : ∀ j v, (cellsB (x.b.take 256))[j]? = some v → (wb.alloc (.cells Z 5)).cell? (ad.add j) = some v := fun j v hv => by
                refine Hbsx.out.cells ad rfl j v ?_
                have hj : j < (cellsB (x.b.take 256)).length := (List.getElem?_eq_some_iff.1 hv).1
                rw [← hv]
                simp [cellsB] at hj ⊢
                rw [List.getElem?_take_of_lt (by omega), List.getElem?_map]
              have Hsrc := hide hsrc
              clear hsrc hb0
              go_wp2_with (refine wpList_copy_owns rfl (.tmp 153) (.tmp 155) 37 37 rfl 5 Try.underlying37 size5 wb.heap.size 0 256 256 ad x.b.length pc rfl rfl 256 256 _ Ho0.out (cellsB (x.b.take 256)) (by rw [cellsB_length, List.length_take]; exact Nat.min_comm _ _) Hsrc.out (by rw [cellsB_length, List.length_take]; omega) (cellsB_oneCell _) ?_
                           intro w4 ho4 hk4
                           rw [cellsB_splice, Hbb.out] at ho4
                           obtain ⟨hb4, y14, hbs4, hz4⟩ := Hkey.out w4 ho4 hk4
                           have Hb4 := hide hb4
                           have Hbs4 := hide hbs4
                           clear ho4 hk4 hb4 hbs4)
              have hzb4 := Hb4.out.size
              have hT4 := HTb.out.add Hb4.out
              obtain ⟨P2, hP2⟩ : ∃ P2 : Nat → Prop, (fun j => P j ∨ (wb.heap.size ≤ j ∧ j < w4.heap.size)) = P2 := ⟨_, rfl⟩
              rw [hP2] at hT4
              have h2w : ∀ b, b < w.heap.size → P2 b := fun b hb => by rw [← hP2]; exact .inl (hPw' b hb)
              have h2D : P2 wr.heap.size := by rw [← hP2]; exact .inl hPD'
              have h2v : P2 wb.heap.size := by rw [← hP2]; exact .inr ⟨Nat.le_refl _, hz4⟩
              have HTd := hide (show Tx P2 w4.drew c g c' g' room 9 k s A s A from hT4.mono (Below.refl _ w4).drew)
              have HUd := hide (show Bs w4.drew (.slice (some ⟨wb.heap.size, 0, none⟩) 256 256) bb from Hbs4.out.drew)
              have Sd : w4.drew.cell? ⟨wr.heap.size, 1, none⟩ = some (.int .i64 x.i) := y14
              have hHeld : ∀ W, Keeps (fun b => ¬ P2 b) w4.drew W → Bs W (.slice (some ⟨wb.heap.size, 0, none⟩) 256 256) bb ∧ W.cell? ⟨wr.heap.size, 1, none⟩ = some (.int .i64 x.i) := fun W hW => ⟨hW.bs HUd.out (fun b hb h => by cases hb; exact h h2v), hW.cell Sd (fun h => h h2D)⟩
              have HHeld := hide hHeld
              have H2w := hide h2w
              clear hHeld h2w hT4 hP2 HTb Hbs4
              go_wp2_with fail
              go_region_held3 (fun W => W.cell? ⟨wr.heap.size, 1, none⟩ = some (.int .i64 x.i))
                (first | exact Sd | exact Sb | exact Sa)
                (first
                  | (go_at_call 20; refine (Haf.out P2 _ _ _ (by first | exact HTd.out | exact Tb.out) _ (by first | exact HUd.out | exact Ub.out)).mono ?_; rintro e wa ⟨rfl, Ta0, ka0⟩
                     have Ka := hide (show Keeps (fun b => ¬ P2 b) w4.drew wa by first | exact ka0 | exact Kb.out.trans ka0)
                     have Ta := hide Ta0
                     obtain ⟨Ua0, Sa⟩ := HHeld.out wa Ka.out
                     have Ua := hide Ua0
                     clear Ta0 ka0 Ua0)
                  | (go_at_call 21; refine (Hbf.out P2 _ _ _ _ (by first | exact HTd.out | exact Ta.out) _ (by first | exact HUd.out | exact Ua.out)).mono ?_; rintro e wB ⟨rfl, Tb0, kb0⟩
                     have Kb := hide (show Keeps (fun b => ¬ P2 b) w4.drew wB by first | exact kb0 | exact Ka.out.trans kb0)
                     have Tb := hide Tb0
                     obtain ⟨Ub0, Sb⟩ := HHeld.out wB Kb.out
                     have Ub := hide Ub0
                     clear Tb0 kb0 Ub0))
              have hDI := Hnext.out _ wB s1 A ((Hb4.out.mono hwz).trans ((Below.refl w.heap.size w4).drew.trans (nb Kb.out H2w.out (show w.heap.size ≤ w4.heap.size by omega)))) (Tb.out.more (Nat.le_succ _)) H2w.out Hlt.out (by omega) (by omega)
              have HDI := hide hDI
              clear hDI HHeld Haf Hbf HTd HUd Sa Sb Sd Ka Ta Tb Kb Ua Ub
              go_wp2_with fail
              go_meet
              case rel => exact ⟨rfl, HDI⟩
          by_cases h4 : x.d = 4
          · have h0b : (x.d == 0) = false := by simp [h0]
            have h1b : (x.d == 1) = false := by simp [h1]
            have h2b : (x.d == 2) = false := by simp [h2]
            have h3b : (x.d == 3) = false := by simp [h3]
            have h4b : (x.d == 4) = true := by simp [h4]
            have hAf := fun (W : World) (s0 : St) (A0 : List En) (hT : Tx P W c g c' g' room 9 k s A s0 A0) => hT.armA x.o hxo.2
            have hBf := fun (W : World) (Q' : Nat) (s0 : St) (A0 : List En) (hT : Tx P W c g c' g' room 9 Q' s0 A0 s A) => hT.armB x.o hxo.2
            have hcf := armS_few s x.o []
            generalize armS s x.o [] = R at *
            obtain ⟨s1, er⟩ := R
            try simp only at hcf hAf hBf
            have Haf := hide hAf
            have Hbf := hide hBf
            have HTd := hide (show Tx P wb.drew c g c' g' room 9 k s A s A from HTb.out.mono (Below.refl _ wb).drew)
            have Sd : wb.drew.cell? ⟨wr.heap.size, 2, none⟩ = some (.int .i64 x.o) := y2
            have hHeld : ∀ W, Keeps (fun b => ¬ P b) wb.drew W → W.cell? ⟨wr.heap.size, 2, none⟩ = some (.int .i64 x.o) := fun W hW => hW.cell Sd (fun h => h hPD')
            have HHeld := hide hHeld
            clear hHeld hAf hBf h0 h2 h5 h1 h3 h4 HTb
            go_wp2_with fail
            go_region_held3 (fun W => W.cell? ⟨wr.heap.size, 2, none⟩ = some (.int .i64 x.o))
              (first | exact Sd | exact Sb | exact Sa)
              (first
                | (go_at_call 22; refine (Haf.out _ _ _ (by first | exact HTd.out | exact Tb.out)).mono ?_; rintro e wa ⟨rfl, Ta0, ka0⟩
                   have Ka := hide (show Keeps (fun b => ¬ P b) wb.drew wa by first | exact ka0 | exact Kb.out.trans ka0)
                   have Ta := hide Ta0
                   have Sa := HHeld.out wa Ka.out
                   clear Ta0 ka0)
                | (go_at_call 23; refine (Hbf.out _ _ _ _ (by first | exact HTd.out | exact Ta.out)).mono ?_; rintro e wB ⟨rfl, Tb0, kb0⟩
                   have Kb := hide (show Keeps (fun b => ¬ P b) wb.drew wB by first | exact kb0 | exact Ka.out.trans kb0)
                   have Tb := hide Tb0
                   have Sb := HHeld.out wB Kb.out
                   clear Tb0 kb0))
            have hDI := Hnext.out _ wB s1 A ((Below.refl w.heap.size wb).drew.trans (nb Kb.out hPw' hwz)) (Tb.out.more (Nat.le_succ _)) hPw' Hlt.out (by omega) (by omega)
            have HDI := hide hDI
            clear hDI HHeld Haf Hbf HTd Sa Sb Sd Ka Ta Tb Kb
            go_wp2_with fail
            go_meet
            case rel => exact ⟨rfl, HDI⟩
          have h0b : (x.d == 0) = false := by simp [h0]
          have h1b : (x.d == 1) = false := by simp [h1]
          have h2b : (x.d == 2) = false := by simp [h2]
          have h3b : (x.d == 3) = false := by simp [h3]
          have h4b : (x.d == 4) = false := by simp [h4]
          have h5b : (x.d == 5) = false := by simp [h5]
          have hDI := Hnext.out _ wb s A (Below.refl _ _) (HTb.out.more (Nat.le_succ _)) hPw' Hlt.out (by omega) (by omega)
          have HDI := hide hDI
          clear hDI h0 h1 h2 h3 h4 h5
          go_wp2_with fail
          go_meet
          case rel => exact ⟨rfl, HDI⟩
        case rest =>
          clear HTb Hx Hnext Hlt Hnd y0 y1 y2 y3 x0 x1 x2 x3 hwb hpl hops
          obtain ⟨rfl, HD⟩ := hcut
          obtain ⟨s1, A1, hT1, hlt1, hp1, ho1, hB1⟩ := id HD.out
          have hsame := hT1.same hr2 hlt1
          obtain ⟨hia, hib, hmed⟩ := hT1.images
          have Hia := hide hia
          have Hib := hide hib
          have Hmed := hide hmed
          clear hia hib hmed hT1 hlt1
          go_wp2_with fail
          refine hsame.mono ?_
          rintro e w6 ⟨rfl, hb6⟩
          have hz6 := hb6.size
          go_wp2_with fail
          refine (Hia.out w6 hb6).mono ?_
          rintro e w7 ⟨v7, rfl, ho7, hb7⟩
          have hb67 := hb6.trans (hb7.mono hz6)
          have hz7 := hb67.size
          have Ho7 := hide ho7
          obtain ⟨a7, c7, rfl⟩ := owns_slice ho7
          clear ho7
          go_wp2_with fail
          refine (Hib.out w7 hb67).mono ?_
          rintro e w8 ⟨v8, rfl, ho8, hb8⟩
          have heq := equal_any (.slice a7 s1.med.length c7) v8 s1.med s1.med w8 ((Bs.of_owns Ho7.out Hmed.out).mono hb8) (Bs.of_owns ho8 Hmed.out)
          rw [decide_eq_true rfl] at heq
          have Heq := hide heq
          obtain ⟨a8, c8, rfl⟩ := owns_slice ho8
          have hb68 := hb67.trans (hb8.mono hz7)
          have HDn := hide (DI.mono HD.out hb68)
          clear heq ho8 Ho7 HD
          go_wp2_with fail
          refine Heq.out.mono ?_
          rintro e w' ⟨rfl, rfl⟩
          go_wp2_with fail
          go_roundw
          case rel => exact ⟨k + 1, by omega, by go_num, HDn⟩
          case measure => simp [intOf]; omega
      · obtain rfl : k = q := by omega
        obtain ⟨s, A, hT, hlt, hpl, hops, hB⟩ := HP.out
        clear HP hT hlt
        go_wp2_with fail
        go_ret
        exact ⟨by simp, hB⟩
  · go_enter Try.func3, Try.ntmps3
    go_wp2_with fail
    refine (new_yes 9 w (by omega) (by omega)).mono ?_
    rintro e w1 ⟨g, m, rfl, hD1, hb1, hg1, hm1⟩
    have HD1 := hide hD1
    have hz1 := hb1.size
    clear hD1
    go_wp2_with fail
    refine (rnew_yes 9 w1 (by omega) (by omega)).mono ?_
    rintro e w2 ⟨g', q0, F0, rfl, hD2, hb2, hg2, hF2⟩
    have hz2 := hb2.size
    clear hD2
    go_wp2_with fail
    refine (live_any _).mono ?_
    rintro e w3 ⟨rfl, hb3⟩
    have hz3 := hb3.size
    have hcn := cnew_no r ((HD1.out.mono hb2).mono hb3) hr
    have hcr := rcnew_no (.pointer (some ⟨g', 0, none⟩)) (w := w3) r hr
    have Hcn := hide hcn
    have Hcr := hide hcr
    clear hcn hcr hr
    go_wp2_with fail
    refine Hcn.out.mono ?_
    rintro e w4 ⟨rfl, rfl⟩
    go_wp2_with fail
    refine Hcr.out.mono ?_
    rintro e w4 ⟨rfl, rfl⟩
    go_wp2_with fail
    go_ret
    exact ⟨by simp, (hb1.trans (hb2.mono hz1)).trans (hb3.mono (by omega))⟩

set_option maxRecDepth 100000 in
theorem cacheDoes_lifted (os : Os) (started : os.Started) (H : Type) (enc : TypeId × Value → H) :
    ReturnsInHanded {} Try.checked os 3 .any (Rows.cacheDoesSpec.pre6 enc Try.prog Try.f3 Rows.cacheDoesRow.domain false) (Rows.cacheDoesSpec.post enc Try.prog Try.f3 false true false false) := by
  refine law_frame (C := Try.checked) rfl Try.own started (by kernel_rfl) Try.func3
    (ChangeSpec.witness6 (enc := enc) (C := Try.checked) false ⟨#[], #[.int .i64 0, .slice none 0 0], []⟩ 8 (by kernel_rfl) (by kernel_rfl) (by kernel_rfl) (by kernel_rfl))
    Try.laidOut ?_ 4 rfl Try.underlying4 ?_ ?_
  · rw [Try.params3]
    intro t ht
    simp at ht
    rcases ht with rfl | rfl <;> exact ⟨by kernel_rfl, of_decide_eq_true (by kernel_rfl)⟩
  · intro ds hn
    rw [Try.params3] at hn
    match ds, hn with
    | [d1, d2], _ => rfl
  · intro W base args ds p hval0 hA hsz
    have hval : ∀ (j : Nat) t v, Try.f3.params[j]? = some t → args[j]? = some v → Value.okWide Try.prog W .any base t v := hval0
    rw [Try.params3] at hA hsz hval
    obtain ⟨v0, vs0, d0, ds0, p0, q0, hargs, rfl, rfl, h0, r0⟩ := trodAll_cons hA
    obtain ⟨v1, vs1, d1, ds1, p1, q1, rfl, rfl, rfl, h1, r1⟩ := trodAll_cons r0
    obtain ⟨rfl, rfl, rfl⟩ := trodAll_nil r1
    obtain rfl : args = #[v0, v1] := by cases args; simp_all
    obtain ⟨a0, rfl, rfl, rfl, w0⟩ := open_int Try.underlying3 (hval 0 3 v0 rfl rfl) h0
    have hb0 := bounds_i64 w0
    obtain ⟨l1, hop1, hol1⟩ := Ops.came (hval 1 22 v1 rfl rfl) h1 hsz (j := 1) rfl rfl
    exact does_walk a0 v1 l1 W hop1 hol1

theorem cacheDoes_holds : Rows.CacheDoesSaid :=
  OpenClaim.holds_of_wide 3 Try.f3 rfl rfl rfl rfl rfl rfl rfl ⟨rfl, rfl, rfl, rfl, rfl⟩ rfl rfl rfl rfl rfl (by kernel_rfl) Try.func3 (by kernel_rfl)
    (of_decide_eq_true (by kernel_rfl)) (by unfold Func.isWrapper; first | (rw [if_pos (by decide +kernel)]; kernel_rfl) | (rw [if_neg (by decide +kernel)]; exact ⟨rfl, rfl⟩))
    (fun os started H enc _ => cacheDoes_lifted os started H enc)
#print axioms cacheDoes_holds

end Go.Proofs.Ytjcmmigbkhiplaa
