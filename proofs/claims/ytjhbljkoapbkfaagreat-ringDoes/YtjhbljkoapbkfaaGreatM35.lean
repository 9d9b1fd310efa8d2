/- Contract: the document's Append, where its records are written. -/
import Derived.Test.YtjhbljkoapbkfaaGreatM34
import Derived.Test.YtjhbljkoapbkfaaGreatM18
set_option linter.unusedSimpArgs false
set_option linter.unusedVariables false

namespace Go.Proofs.YtjhbljkoapbkfaaGreat
open Go.RowKit Go.Attic Go.Shelf

set_option maxRecDepth 100000 in
set_option maxHeartbeats 2000000 in
theorem rapp_go {w : World} {x g : Nat} {q p : Option Nat} {F Fx : Nat → Prop} {n base blocks head : Nat} {s : St} {rs : List Rc} (h : WD w x g q p F Fx n base blocks head s rs) (v : Value) (l : List Rc) (Fl : Nat → Prop) (hL : Rs w Fl v l) (hlen : l.length ≤ 140737488355328) (hFl : ∀ k, Fl k → k < w.heap.size ∧ ¬ OwnX g F k ∧ k ≠ x) (hpl : s.pend.length + 2000 ≤ 1000000) (hops : s.ops + 2000 ≤ 1000000) (hok : ∀ x ∈ l, okRc x) (hroom : rs.length + l.length ≤ 4 * blocks) (hlong : head + rs.length + l.length ≤ 1152921504606846976)
    (Z : St × Int) (hZ : layN n base blocks l.length s (head + rs.length) l = Z) (rz : List Rc) (hrz : (if Z.2 = 0 then rs ++ l else rs) = rz) :
    Calls Tryz.prog 19 #[.pointer (some ⟨x, 0, none⟩), v] w fun e w' => e = .returned (.int .i64 Z.2) ∧ WTurn w x g F Fx Fl n base blocks head Z.1 rz w' := by
  have hR := h.rk
  have hb1 := hR.b1
  have hb2 := hR.b2
  have hb3 := hR.b3
  have hhd := hR.hd
  have hln := hR.ln
  obtain ⟨ao, cap, hv, hcap⟩ := hL.slice
  obtain ⟨L, hLL⟩ : ∃ L, l.length = L := ⟨_, rfl⟩
  rw [hLL] at hv hcap hlen
  subst hv
  have HLL := hide hLL
  have HL := hide hL
  have H := hide h
  clear hLL hL h hR
  have hlt := HL.out.lt
  have Hrz := hide hrz
  clear hrz
  go_enter Tryz.func19, Tryz.ntmps19
  go_wp2_with fail
  go_loopw [5] (fun i wr => ∃ k : Nat, k ≤ L ∧ i = .int .i64 (k : Int) ∧ Below w.heap.size w wr) (fun i _ => L - (intOf i).toNat)
  case atStart => exact ⟨0, Nat.zero_le _, rfl, Below.refl _ _⟩
  case round =>
    obtain ⟨k, hk, rfl, hbr⟩ := hrel
    by_cases hkL : k < L
    · have hkl : k < l.length := by have := HLL.out; omega
      obtain ⟨-, lb, lo, u, rfl, hFb, hat, hub, huF⟩ := (HL.out.mono hbr).at k hkl
      have hokr := hok _ (List.getElem_mem hkl)
      generalize l[k] = y at *
      obtain ⟨uao, ucap, rfl, -⟩ := id hub
      have x0 := hat.c0
      have x1 := hat.c1
      have x2 := hat.c2
      have x3 := hat.c3
      have x4 := hat.c4
      have hch := fun W => rcheck_any y.k y.b y.o y.m y.l.length ucap uao W (by have := okRc_len hokr; omega)
      simp only [chkR_ok hokr] at hch
      clear hat hub
      go_wp2_with fail
      refine (hch _).mono ?_
      rintro e w4 ⟨rfl, hb4⟩
      go_wp2_with fail
      go_roundw
      case rel => exact ⟨k + 1, by omega, by go_num, hbr.trans (hb4.mono hbr.size)⟩
      case measure => simp [intOf]; omega
    · obtain rfl : k = L := by omega
      clear hk hkL
      have hroomY := rroom_yes (H.out.mono hbr).rk
      have hro : ¬ ((4 * blocks - rs.length : Nat) : Int) < (k : Int) := by have := HLL.out; omega
      have htail := fun nd => rtail_yes ((H.out.mono hbr).mono (below_drewN (Below.refl _ _) nd)).rk
      have hlo : ¬ (1152921504606846976 : Int) - ((head + rs.length : Nat) : Int) < (k : Int) := by have := HLL.out; omega
      have hlo2 : -9223372036854775808 ≤ (1152921504606846976 : Int) - ((head + rs.length : Nat) : Int) := by omega
      generalize 4 * blocks - rs.length = rm at *
      obtain ⟨tl, htl⟩ : ∃ tl, head + rs.length = tl := ⟨_, rfl⟩
      rw [htl] at htail hlo hlo2 hZ
      have Htl := hide htl
      have HZ := hide hZ
      have hL24 : k ≤ 1024 := by have := HLL.out; omega
      clear htl hZ
      go_wp2_with fail
      refine hroomY.mono ?_
      rintro e w4 ⟨rfl, nd, rfl⟩
      go_wp2_with fail
      refine (htail nd).mono ?_
      rintro e w4 ⟨rfl, nd2, rfl⟩
      have hbX : Below w.heap.size w (wr.drewN (nd + nd2)) := below_drewN hbr _
      clear hroomY htail
      go_wp2_with fail
      generalize wr.drewN (nd + nd2) = X at *
      simp only [show decide ((1152921504606846976 : Int) - (tl : Int) < (k : Int)) = false by simp; omega]
      go_loopw [7] (fun i wr => ∃ (j f : Nat) (s2 : St) (q2 p2 : Option Nat) (F2 : Nat → Prop), j ≤ k ∧ i = .int .i64 (j : Int) ∧ k - j ≤ f ∧ layN n base blocks f s2 (tl + j) (l.drop j) = Z ∧ Dr wr g q2 p2 F2 n s2 ∧ Keeps (OwnX g F) w wr ∧ (∀ b, F2 b → F b ∨ w.heap.size ≤ b) ∧ s2.pend.length ≤ s.pend.length + j ∧ s2.ops ≤ s.ops + j) (fun i _ => k - (intOf i).toNat)
      case atStart => exact ⟨0, l.length, s, q, p, F, Nat.zero_le _, rfl, by have := HLL.out; omega, by simpa using HZ.out, H.out.dk.mono hbX, Keeps.of_below hbX, fun b hb => .inl hb, Nat.le_refl _, Nat.le_refl _⟩
      case round =>
        obtain ⟨j, f, s2, q2, p2, F2, hj, rfl, hf, hlay, hDr, hKp, hF2, hp2, ho2⟩ := hrel
        by_cases hjk : j < k
        · obtain ⟨WR, hWR⟩ : ∃ W, W = wr := ⟨_, rfl⟩
          subst hWR
          have hDo := H.out
          have hxl := hDo.rk.xl
          have hWk := hDo.rk.keeps hKp hDo.xO hDo.ap
          have hLw := HL.out.keeps hKp (fun b hb => (hFl b hb).2.1)
          obtain ⟨f', rfl⟩ : ∃ f', f = f' + 1 := ⟨f - 1, by omega⟩
          obtain ⟨t, ht⟩ : ∃ t, tl + j = t := ⟨_, rfl⟩
          have hti : (tl : Int) + (j : Int) = (t : Int) := by omega
          rw [ht] at hlay
          have hdl : (l.drop j).length = k - j := by have := HLL.out; simp; omega
          obtain ⟨bk, hbk⟩ : ∃ bk, base + t / 4 % blocks = bk := ⟨_, rfl⟩
          have hml : t / 4 % blocks < blocks := Nat.mod_lt _ (by omega)
          have hfit := hDo.fit
          have hbn : bk < n := by omega
          have htb : t ≤ 1152921504606846976 := by have := Htl.out; have := HLL.out; omega
          have hzw := hKp.size
          obtain ⟨a0, ha0⟩ : ∃ a0, t % 4 * 64 = a0 := ⟨_, rfl⟩
          have hT : ∀ i, Calls Tryz.prog 30 #[.pointer (some ⟨x, 0, none⟩)] (WR.drewN i) fun e w' => e = .returned (.int .i64 (tl : Int)) ∧ ∃ i', w' = (WR.drewN i).drewN i' := fun i => (rtail_yes (hWk.mono (below_drewN (Below.refl _ _) i))).mono (fun e w' ⟨u1, n1, u2⟩ => ⟨by rw [u1, Htl.out], n1, u2.symm⟩)
          have hP : ∀ i, Calls Tryz.prog 51 #[.int .i64 (base : Int), .int .i64 (blocks : Int), .int .i64 (t : Int)] (WR.drewN i) fun e w' => e = .returned (.tuple #[.int .i64 (bk : Int), .int .i64 (a0 : Int)]) ∧ w' = WR.drewN i := fun i => (place_yes base blocks t _ hb1 hb2 (by omega) (by omega)).mono (fun e w' ⟨u1, u2⟩ => ⟨by rw [u1, hbk, ha0], u2.symm⟩)
          have c0 := hWk.c0
          have c1 := hWk.c1
          have c2 := hWk.c2
          have hwt : IntKind.i64.wrap (t : Int) = (t : Int) := wrap_small (by omega)
          have HWk := hide hWk
          have HLw := hide hLw
          have HDr := hide hDr
          have Hbk := hide hbk
          have Ht := hide ht
          have Hdl := hide hdl
          have HKp := hide hKp
          have Hlay := hide hlay
          clear hWk hLw hDr hbk hml ht hdl hDo hlay hKp ha0
          go_wp2_with fail
          go_quiet (first | (go_at_call 30; refine Calls.quiet_of (hT _)) | (go_at_call 51; refine Calls.quiet_of_same (hP _)))
          clear hT hP
          obtain ⟨Y, hY⟩ : ∃ Y, WR.drewN nq = Y := ⟨_, rfl⟩
          have hbY : Below WR.heap.size WR Y := hY ▸ below_drewN (Below.refl _ _) nq
          have d0 : Y.cell? ⟨x, 0, none⟩ = some (.pointer (some ⟨g, 0, none⟩)) := by rw [← hY]; exact c0
          have hrd := rread_yes (HDr.out.mono hbY) (bk : Int) (by omega)
          have hzY := hbY.size
          by_cases hon : s2.on = true
          · obtain ⟨b, hb⟩ : ∃ b, readL s2 bk = b := ⟨_, rfl⟩
            rw [show readS s2 n (bk : Int) = (b, 0) by
              have : inS n (bk : Int) = true := by simp [inS]; omega
              simp [readS, hon, this, hb]] at hrd
            obtain ⟨hbl, hblt⟩ := readL_ok (i := bk) HDr.out.ok hbn
            rw [hb] at hbl hblt
            have Hb := hide hb
            clear hb
            go_wp2_with fail
            refine hrd.mono ?_
            rintro e W1 ⟨vb, rfl, hob, hB1⟩
            dsimp only at hob
            rw [hbl] at hob
            obtain ⟨bb, cb, hvb, hbb, hcb⟩ : ∃ bb cb, vb = .slice (some ⟨bb, 0, none⟩) 256 cb ∧ Y.heap.size ≤ bb ∧ 256 ≤ cb := by
              obtain ⟨ao, cap, e, hc, hg⟩ := owns_form hob
              obtain ⟨gb, rfl, hgb⟩ := hg (by omega)
              exact ⟨gb, cap, e, hgb, hc⟩
            subst hvb
            have hrow0 := owns_base hob (Nat.zero_le _)
            obtain ⟨c, hc⟩ : ∃ c, min (k - j) (4 - t % 4) = c := ⟨_, rfl⟩
            have hc1 : 1 ≤ c ∧ c ≤ k - j ∧ c ≤ 4 - t % 4 ∧ (c = k - j ∨ c = 4 - t % 4) := by omega
            obtain ⟨l1, hl1⟩ : ∃ l1, (l.drop j).take c = l1 := ⟨_, rfl⟩
            have hl1l : l1.length = c := by rw [← hl1, List.length_take, Hdl.out]; omega
            have hl1k : ∀ m (hm : m < l1.length), ∃ h : j + m < l.length, l1[m] = l[j + m] := fun m hm => by
              have hl : j + m < l.length := by have := HLL.out; omega
              refine ⟨hl, ?_⟩
              subst hl1
              simp
            have Hok1 : Hid (∀ y ∈ l1, okRc y) := hide (fun y hy => hok y (by rw [← hl1] at hy; exact List.mem_of_mem_drop (List.mem_of_mem_take hy)))
            have Hlt1 : Hid (∀ y ∈ l1, ∀ z ∈ y.l, z < 256) := hide (fun y hy => hlt y (by rw [← hl1] at hy; exact List.mem_of_mem_drop (List.mem_of_mem_take hy)))
            have Hl1 := hide hl1
            have Hc := hide hc
            have Hl1l := hide hl1l
            have Hl1k := hide hl1k
            have Hrow0 := hide hrow0
            have hzB := hB1.size
            have HWY := hide ((HWk.out.mono hbY).mono hB1)
            have HLY := hide ((HLw.out.mono hbY).mono hB1)
            clear hob hrow0 hc hl1 hl1l hl1k hrd hY c0 c1 c2
            go_wp2_with fail
            go_loopw [7] (fun i wr2 => ∃ m : Nat, m ≤ c ∧ i = .int .i64 ((j + m : Nat) : Int) ∧ wr2.ownsRow 0 5 1 (.slice (some ⟨bb, 0, none⟩) 256 cb) 256 (cellsB (layB b t (l1.take m))) ∧ Keeps (fun q => q = bb) W1 wr2 ∧ (m = c → j + c = k)) (fun i _ => k - (intOf i).toNat)
            case atStart => exact ⟨0, Nat.zero_le _, by go_num, by simpa [layB] using Hrow0.out, Keeps.refl _ _, fun e => by omega⟩
            case round =>
              clear Hrow0
              obtain ⟨m, hm, rfl, hrow, hkk, hmc⟩ := hrel
              obtain ⟨V0, hV0⟩ : ∃ W, W = wr := ⟨_, rfl⟩
              subst hV0
              by_cases hmk : m < c
              · have hbx : ¬ (fun q => q = bb) x := fun e => by have e' : x = bb := e; omega
                have hWV := HWY.out.keeps hkk hbx (fun q hq e => by have e' : q = bb := e; have := HWk.out.Fl q hq; omega)
                have hLV := HLY.out.keeps hkk (fun q hq e => by have e' : q = bb := e; have := (hFl q hq).1; omega)
                obtain ⟨hjl, hl1m⟩ := Hl1k.out m (by have := Hl1l.out; omega)
                obtain ⟨i1, hi1⟩ : ∃ i1, j + m = i1 := ⟨_, rfl⟩
                obtain ⟨t1, ht1⟩ : ∃ t1, t + m = t1 := ⟨_, rfl⟩
                have hi1k : i1 < k := by omega
                have ht1i : (tl : Int) + (i1 : Int) = (t1 : Int) := by omega
                have hbk1 : base + t1 / 4 % blocks = bk := by rw [show t1 / 4 = t / 4 by omega]; exact Hbk.out
                obtain ⟨a1, ha1⟩ : ∃ a1, t1 % 4 * 64 = a1 := ⟨_, rfl⟩
                have hT : Calls Tryz.prog 30 #[.pointer (some ⟨x, 0, none⟩)] V0 fun e w' => e = .returned (.int .i64 (tl : Int)) ∧ ∃ i', w' = V0.drewN i' := (rtail_yes hWV).mono (fun e w' ⟨u1, n1, u2⟩ => ⟨by rw [u1, Htl.out], n1, u2.symm⟩)
                have hP : ∀ W, Calls Tryz.prog 51 #[.int .i64 (base : Int), .int .i64 (blocks : Int), .int .i64 (t1 : Int)] W fun e w' => e = .returned (.tuple #[.int .i64 (bk : Int), .int .i64 (a1 : Int)]) ∧ w' = W := fun W => (place_yes base blocks t1 _ hb1 hb2 (by omega) (by omega)).mono (fun e w' ⟨u1, u2⟩ => ⟨by rw [u1, hbk1, ha1], u2.symm⟩)
                have c1 := hWV.c1
                have c2 := hWV.c2
                obtain ⟨-, lb, lo, u, rfl, hFb, hat, hub, huF⟩ := hLV.at (j + m) hjl
                have hokr := hok _ (List.getElem_mem hjl)
                have hylt := hub.lt
                rw [← hl1m] at hat hub hokr hylt
                rw [hi1] at hat hjl
                have Hl1m := hide hl1m
                have hlm : m < l1.length := by have := Hl1l.out; omega
                obtain ⟨y, hy⟩ : ∃ y, l1[m] = y := ⟨_, rfl⟩
                have hyo : l1[m]? = some y := by rw [List.getElem?_eq_getElem hlm, hy]
                rw [hy] at hat hub hokr hylt
                obtain ⟨uao, ucap, rfl, -⟩ := id hub
                have HWV := hide hWV
                have HLV := hide hLV
                have Hat := hide hat
                have Hub := hide hub
                have Hrow := hide hrow
                have Hkk := hide hkk
                have Hi1 := hide hi1
                have Ht1 := hide ht1
                have Ha1 := hide ha1
                have Hyo := hide hyo
                have ha1l : a1 ≤ 192 := by have := Ha1.out; omega
                have hwt1 : IntKind.i64.wrap (t1 : Int) = (t1 : Int) := wrap_small (by omega)
                rw [hi1]
                clear hWV hLV hat hub huF hrow hkk hi1 ht1 ha1 hyo hl1m hy hbk1 Hl1m
                go_wp2_with fail
                refine hT.mono ?_
                rintro e V1 ⟨rfl, n1, hV1⟩
                have hbV1 : Below V0.heap.size V0 V1 := hV1 ▸ below_drewN (Below.refl _ _) _
                have d1 : V1.cell? ⟨x, 1, none⟩ = some (.int .i64 (base : Int)) := by rw [hV1]; exact c1
                have d2 : V1.cell? ⟨x, 2, none⟩ = some (.int .i64 (blocks : Int)) := by rw [hV1]; exact c2
                clear hT hV1 c1 c2
                go_wp2_with fail
                go_quiet (first | (go_at_call 51; refine Calls.quiet_of_same (hP _)))
                clear hP d1 d2
                obtain ⟨V2, hV2⟩ : ∃ V2, V1.drewN nq = V2 := ⟨_, rfl⟩
                have hb2 : Below V0.heap.size V0 V2 := hV2 ▸ below_drewN hbV1 _
                have hat2 := Hat.out.mono hb2
                have hub2 := Hub.out.mono hb2
                obtain ⟨x0, x1, x2, x3, x4⟩ := hat2.held
                have hby := rbytes_ok t1 y (by omega) hokr _ V2 hub2
                have hneb : ((bk : Int) != (bk : Int)) = false := by simp
                clear hat2 hub2
                go_wp2_with fail
                refine hby.mono ?_
                rintro e V4 ⟨v4, rfl, ho4, hB4⟩
                have hs64 := secRc_length (n := t1) hokr
                rw [hs64] at ho4
                obtain ⟨g4, c4, ev4, hg4⟩ : ∃ g4 c4, v4 = .slice (some ⟨g4, 0, none⟩) 64 c4 ∧ V2.heap.size ≤ g4 := by
                  obtain ⟨ao, cap, e, _, hg⟩ := owns_form ho4
                  obtain ⟨gb, rfl, hgb⟩ := hg (by omega)
                  exact ⟨gb, cap, e, hgb⟩
                subst ev4
                have hrow4 := (Keeps.of_below (S := fun _ => False) hB4).owns ((Keeps.of_below (S := fun _ => False) hb2).owns Hrow.out (fun _ _ => id)) (fun _ _ => id)
                have hsrc := fun j' v' => ho4.cells (g := g4) rfl j' v'
                have Hs64 := hide hs64
                have Hsrc := hide hsrc
                clear ho4 hs64 hsrc hby x0 x1 x2 x3 x4
                have hca : ¬ cb = a1 := by omega
                have d4 := (Keeps.of_below (S := fun _ => False) (hb2.trans (hB4.mono hb2.size))).cell (Hkk.out.cell ((Keeps.of_below (S := fun _ => False) hB1).cell d0 id) hbx) id
                by_cases hend : a1 = 192
                · have hendb : ((a1 : Int) == 192) = true := by simp [hend]
                  have hic : (i1 : Int) + 1 = ((j + c : Nat) : Int) := by have := Hi1.out; have := Ht1.out; have := Ha1.out; omega
                  have hmc1 : c = m + 1 := by have := Ht1.out; have := Ha1.out; omega
                  have Hmc1 := hide hmc1
                  clear hend hmc1
                  go_wp2_with (refine wpList_copy_owns rfl (.tmp 110) (.tmp 111) 30 30 rfl 5 Tryz.underlying30 size5 bb a1 (256 - a1) (cb - a1) ⟨g4, 0, none⟩ 64 c4 rfl rfl 256 cb (cellsB (layB b t (l1.take m))) hrow4 (cellsB (secRc t1 y)) (by rw [cellsB_length, Hs64.out]; exact (Nat.min_eq_left (by omega)).symm) Hsrc.out (by rw [cellsB_length, Hs64.out]; omega) (cellsB_oneCell _) ?_; intro w5 ho5 hk5; have dV5 := hk5.cell d4 hbx)
                  have hrowV : w5.ownsRow 0 5 1 (.slice (some ⟨bb, 0, none⟩) 256 cb) 256 (cellsB (layB b t l1)) := by
                    have e1 : l1.take (m + 1) = l1 := List.take_of_length_le (by have := Hl1l.out; have := Hmc1.out; omega)
                    rw [← e1, List.take_add_one, Hyo.out, Option.toList_some, layB_snoc, List.length_take, show min m l1.length = m by omega, ← cellsB_splice, Ht1.out, Ha1.out]
                    exact ho5
                  have hkV : Keeps (fun q => q = bb) W1 w5 := Hkk.out.trans ((Keeps.of_below (hb2.trans (hB4.mono hb2.size))).trans hk5)
                  obtain ⟨V, hV⟩ : ∃ W, W = w5 := ⟨_, rfl⟩
                  subst hV
                  clear ho5 hk5 hrow4 Hsrc Hrow Hkk hmc HWY HLY HWV HLV Hub Hat hmk
                  have hDV := ((HDr.out.mono hbY).mono hB1).keeps hkV (fun e => by have e' : g = bb := e; have := HDr.out.gl; omega) (fun q hq e => by have e' : q = bb := e; have := HDr.out.Fl q hq; omega)
                  have hblV := layB_length b t l1 hbl Hok1.out
                  have hltV := layB_lt b t l1 hblt Hok1.out Hlt1.out
                  obtain ⟨bb2, hbb2⟩ : ∃ bb2, layB b t l1 = bb2 := ⟨_, rfl⟩
                  rw [hbb2] at hrowV hblV hltV
                  have hbx : Bs V (.slice (some ⟨bb, 0, none⟩) 256 cb) bb2 := by have := Bs.of_owns hrowV hltV; exact this
                  have hwrt := rwrite_yes hDV (bk : Int) _ bb2 hbx (by omega) (by omega) (by omega)
                  obtain ⟨P, hP⟩ : ∃ P, writeS s2 n (bk : Int) bb2 = P := ⟨_, rfl⟩
                  rw [hP] at hwrt
                  have hgrow := writeS_grows s2 n (bk : Int) bb2
                  rw [hP] at hgrow
                  have dV : V.cell? ⟨x, 0, none⟩ = some (.pointer (some ⟨g, 0, none⟩)) := hkV.cell (((Keeps.of_below (S := fun _ => False) hB1)).cell d0 id) (fun e => by have e' : x = bb := e; omega)
                  have hkWV : Keeps (OwnX g F) w V := (HKp.out.trans ((Keeps.of_below hbY).trans (Keeps.of_below hB1))).trans' hkV (fun q hq => .inr (by omega))
                  have HbbV := hide hbb2
                  have HP := hide hP
                  have HgV := hide hgrow
                  have HkWV := hide hkWV
                  clear hbb2 hP hgrow hkWV hDV hbx hrowV hltV hblV hkV
                  by_cases hz : P.2 = 0
                  · rw [hz] at hwrt
                    go_wp2_with fail
                    refine hwrt.mono ?_
                    rintro e V2 ⟨rfl, q', p', F', hD', hk', hF'⟩
                    have HD' := hide hD'
                    clear hD' hwrt
                    go_wp2_with fail
                    go_roundw
                    case rel =>
                      refine ⟨j + c, f', P.1, q', p', F', by omega, by go_num, by omega, ?_, HD'.out, HkWV.out.trans' hk' (fun q hq => ?_), fun q hq => ?_, by have := HgV.out; omega, by have := HgV.out; omega⟩
                      · have := layN_go (n := n) (base := base) (blocks := blocks) (f := f') (t := t) (s := s2) (rs := l.drop j) (c := c) (b := bb2) (by have := Hdl.out; omega) hon (by rw [Hdl.out]; exact Hc.out) (by rw [Hbk.out, Hb.out, Hl1.out]; exact HbbV.out) (by rw [Hbk.out, HP.out]; exact hz)
                        rw [Hbk.out, HP.out, Hlay.out] at this
                        rw [this, List.drop_drop, ← Ht.out]
                        rw [show tl + j + c = tl + (j + c) by omega]
                      · rcases hq with e | e
                        · exact .inl (.inl e)
                        · rcases hF2 q e with e | e
                          · exact .inl (.inr e)
                          · exact .inr e
                      · rcases hF' q hq with e | e
                        · exact hF2 q e
                        · exact .inr (by have := HkWV.out.size; omega)
                    case measure => simp [intOf]; omega
                  · have hZP : Z = P := by
                      have := layN_err (n := n) (base := base) (blocks := blocks) (f := f') (t := t) (s := s2) (rs := l.drop j) (c := c) (b := bb2) (by have := Hdl.out; omega) hon (by rw [Hdl.out]; exact Hc.out) (by rw [Hbk.out, Hb.out, Hl1.out]; exact HbbV.out) (by rw [Hbk.out, HP.out]; exact hz)
                      rw [Hbk.out, HP.out, Hlay.out] at this
                      exact this
                    obtain ⟨er, her⟩ : ∃ er, P.2 = er := ⟨_, rfl⟩
                    rw [her] at hwrt hz
                    have HZP := hide hZP
                    have Her := hide her
                    clear hZP her
                    go_wp2_with fail
                    refine hwrt.mono ?_
                    rintro e V2 ⟨rfl, q', p', F', hD', hk', hF'⟩
                    have HD' := hide hD'
                    clear hD' hwrt
                    go_wp2_with fail
                    go_ret
                    have Hrz' := Hrz.out
                    rw [HZP.out, if_neg (by rw [Her.out]; exact hz)] at Hrz'
                    subst Hrz'
                    rw [HZP.out, Her.out]
                    refine ⟨by first | rfl | simp, H.out.turn ⟨q', p', F', HD'.out, HkWV.out.trans' hk' (fun q hq => ?_), fun q hq => ?_⟩⟩
                    · rcases hq with e | e
                      · exact .inl (.inl e)
                      · rcases hF2 q e with e | e
                        · exact .inl (.inr e)
                        · exact .inr e
                    · rcases hF' q hq with e | e
                      · exact hF2 q e
                      · exact .inr (by have := HkWV.out.size; omega)
                · have hendb : ((a1 : Int) == 192) = false := by simp; omega
                  go_wp2_with (refine wpList_copy_owns rfl (.tmp 110) (.tmp 111) 30 30 rfl 5 Tryz.underlying30 size5 bb a1 (256 - a1) (cb - a1) ⟨g4, 0, none⟩ 64 c4 rfl rfl 256 cb (cellsB (layB b t (l1.take m))) hrow4 (cellsB (secRc t1 y)) (by rw [cellsB_length, Hs64.out]; exact (Nat.min_eq_left (by omega)).symm) Hsrc.out (by rw [cellsB_length, Hs64.out]; omega) (cellsB_oneCell _) ?_; intro w5 ho5 hk5; have dV5 := hk5.cell d4 hbx)
                  have Hrow5 := hide ho5
                  have hkV : Keeps (fun q => q = bb) W1 w5 := Hkk.out.trans ((Keeps.of_below (hb2.trans (hB4.mono hb2.size))).trans hk5)
                  clear ho5 hk5 hrow4
                  go_wp2_with fail
                  go_roundw
                  case rel =>
                    refine ⟨m + 1, by omega, by have := Hi1.out; go_num, ?_, hkV, fun e => ?_⟩
                    · rw [List.take_add_one, Hyo.out, Option.toList_some, layB_snoc, List.length_take, show min m l1.length = m by omega, ← cellsB_splice, Ht1.out, Ha1.out]
                      exact Hrow5.out
                    · have := Ht1.out; have := Ha1.out; omega
                  case measure => have := Hi1.out; simp [intOf]; omega
              · have emc : m = c := by omega
                rw [emc] at hrow hmc hmk
                have hjm := hmc rfl
                rw [emc]
                clear hm emc
                have htk : l1.take c = l1 := List.take_of_length_le (by have := Hl1l.out; omega)
                rw [htk] at hrow
                obtain ⟨V, hV⟩ : ∃ W, W = V0 := ⟨_, rfl⟩
                subst hV
                have hrowV := hrow
                have hkV := hkk
                clear hrow hkk hmc HWY HLY hmk htk
                have hDV := ((HDr.out.mono hbY).mono hB1).keeps hkV (fun e => by have e' : g = bb := e; have := HDr.out.gl; omega) (fun q hq e => by have e' : q = bb := e; have := HDr.out.Fl q hq; omega)
                have hblV := layB_length b t l1 hbl Hok1.out
                have hltV := layB_lt b t l1 hblt Hok1.out Hlt1.out
                obtain ⟨bb2, hbb2⟩ : ∃ bb2, layB b t l1 = bb2 := ⟨_, rfl⟩
                rw [hbb2] at hrowV hblV hltV
                have hbx : Bs V (.slice (some ⟨bb, 0, none⟩) 256 cb) bb2 := by have := Bs.of_owns hrowV hltV; exact this
                have hwrt := rwrite_yes hDV (bk : Int) _ bb2 hbx (by omega) (by omega) (by omega)
                obtain ⟨P, hP⟩ : ∃ P, writeS s2 n (bk : Int) bb2 = P := ⟨_, rfl⟩
                rw [hP] at hwrt
                have hgrow := writeS_grows s2 n (bk : Int) bb2
                rw [hP] at hgrow
                have dV : V.cell? ⟨x, 0, none⟩ = some (.pointer (some ⟨g, 0, none⟩)) := hkV.cell (((Keeps.of_below (S := fun _ => False) hB1)).cell d0 id) (fun e => by have e' : x = bb := e; omega)
                have hkWV : Keeps (OwnX g F) w V := (HKp.out.trans ((Keeps.of_below hbY).trans (Keeps.of_below hB1))).trans' hkV (fun q hq => .inr (by omega))
                have HbbV := hide hbb2
                have HP := hide hP
                have HgV := hide hgrow
                have HkWV := hide hkWV
                clear hbb2 hP hgrow hkWV hDV hbx hrowV hltV hblV hkV
                by_cases hz : P.2 = 0
                · rw [hz] at hwrt
                  go_wp2_with fail
                  refine hwrt.mono ?_
                  rintro e V2 ⟨rfl, q', p', F', hD', hk', hF'⟩
                  have HD' := hide hD'
                  clear hD' hwrt
                  go_wp2_with fail
                  go_roundw
                  case rel =>
                    refine ⟨j + c, f', P.1, q', p', F', by omega, by go_num, by omega, ?_, HD'.out, HkWV.out.trans' hk' (fun q hq => ?_), fun q hq => ?_, by have := HgV.out; omega, by have := HgV.out; omega⟩
                    · have := layN_go (n := n) (base := base) (blocks := blocks) (f := f') (t := t) (s := s2) (rs := l.drop j) (c := c) (b := bb2) (by have := Hdl.out; omega) hon (by rw [Hdl.out]; exact Hc.out) (by rw [Hbk.out, Hb.out, Hl1.out]; exact HbbV.out) (by rw [Hbk.out, HP.out]; exact hz)
                      rw [Hbk.out, HP.out, Hlay.out] at this
                      rw [this, List.drop_drop, ← Ht.out]
                      rw [show tl + j + c = tl + (j + c) by omega]
                    · rcases hq with e | e
                      · exact .inl (.inl e)
                      · rcases hF2 q e with e | e
                        · exact .inl (.inr e)
                        · exact .inr e
                    · rcases hF' q hq with e | e
                      · exact hF2 q e
                      · exact .inr (by have := HkWV.out.size; omega)
                  case measure => simp [intOf]; omega
                · have hZP : Z = P := by
                    have := layN_err (n := n) (base := base) (blocks := blocks) (f := f') (t := t) (s := s2) (rs := l.drop j) (c := c) (b := bb2) (by have := Hdl.out; omega) hon (by rw [Hdl.out]; exact Hc.out) (by rw [Hbk.out, Hb.out, Hl1.out]; exact HbbV.out) (by rw [Hbk.out, HP.out]; exact hz)
                    rw [Hbk.out, HP.out, Hlay.out] at this
                    exact this
                  obtain ⟨er, her⟩ : ∃ er, P.2 = er := ⟨_, rfl⟩
                  rw [her] at hwrt hz
                  have HZP := hide hZP
                  have Her := hide her
                  clear hZP her
                  go_wp2_with fail
                  refine hwrt.mono ?_
                  rintro e V2 ⟨rfl, q', p', F', hD', hk', hF'⟩
                  have HD' := hide hD'
                  clear hD' hwrt
                  go_wp2_with fail
                  go_ret
                  have Hrz' := Hrz.out
                  rw [HZP.out, if_neg (by rw [Her.out]; exact hz)] at Hrz'
                  subst Hrz'
                  rw [HZP.out, Her.out]
                  refine ⟨by first | rfl | simp, H.out.turn ⟨q', p', F', HD'.out, HkWV.out.trans' hk' (fun q hq => ?_), fun q hq => ?_⟩⟩
                  · rcases hq with e | e
                    · exact .inl (.inl e)
                    · rcases hF2 q e with e | e
                      · exact .inl (.inr e)
                      · exact .inr e
                  · rcases hF' q hq with e | e
                    · exact hF2 q e
                    · exact .inr (by have := HkWV.out.size; omega)
          · rw [show readS s2 n (bk : Int) = ([], 5) by simp [readS, hon]] at hrd
            have hZP : Z = (s2, 5) := by rw [← Hlay.out]; exact layN_off (by have := Hdl.out; omega) (by simpa using hon)
            have HZP := hide hZP
            clear hZP
            go_wp2_with fail
            refine hrd.mono ?_
            rintro e W1 ⟨vb, rfl, hob, hB1⟩
            clear hob
            go_wp2_with fail
            go_ret
            have Hrz' := Hrz.out
            rw [HZP.out, if_neg (by simp)] at Hrz'
            subst Hrz'
            rw [HZP.out]
            exact ⟨by first | rfl | simp, H.out.turn ⟨q2, p2, F2, (HDr.out.mono hbY).mono hB1, HKp.out.trans ((Keeps.of_below hbY).trans (Keeps.of_below hB1)), hF2⟩⟩
        · obtain ⟨WR, hWR⟩ : ∃ W, W = wr := ⟨_, rfl⟩
          subst hWR
          have ejk : j = k := by omega
          rw [ejk] at hlay hp2 ho2
          have hZ2 : Z = (s2, 0) := by rw [← hlay]; exact layN_nil (by have := HLL.out; simp; omega)
          have hDo := H.out
          have hxl := hDo.rk.xl
          have hzw := hKp.size
          have hWk := hDo.rk.keeps hKp hDo.xO hDo.ap
          have hLw := HL.out.keeps hKp (fun b hb => (hFl b hb).2.1)
          obtain ⟨ao4, cap4, c4, hR4, hn4⟩ := hWk.c4
          have f4 := hWk.f4
          have HR4 := hide (hR4.widen (F' := fun q => Fx q ∨ Fl q) (fun q hq => .inl hq))
          have HLw := hide (hLw.widen (F' := fun q => Fx q ∨ Fl q) (fun q hq => .inr hq))
          have hFz : ∀ q, (Fx q ∨ Fl q) → q < WR.heap.size := fun q hq => by
            rcases hq with e | e
            · have := hDo.rk.Fl q e; omega
            · have := (hFl q e).1; omega
          have hxz : x < WR.heap.size := by omega
          have hrl : rs.length + k ≤ 1024 := by have := HLL.out; omega
          have HWk := hide hWk
          have HDr := hide hDr
          have HKp := hide hKp
          have HZ2 := hide hZ2
          clear hWk hR4 hLw hDr hKp hZ2 hlay hn4 hDo
          go_wp2_with (at_builtin; first
            | (refine wpList_append_want _ rfl (.const (.slice none 0 0)) (.tmp 131) rfl rfl (Wt.nil _ (fun q => Fx q ∨ Fl q)) (fun h => by omega) hFz (fun _ => rfl) _ rs rfl HR4.out (by simp; omega) ?_
               intro ao7 cap7 wb7 vs7 w7 hW7 hk7 hn7 hw7
               rw [List.nil_append] at hW7
               have hz7 := hk7.size
               have hL7 := HLw.out.keeps hk7 (fun _ _ h => by omega)
               have c47 := hk7.cell c4 (fun h => by omega)
               have f47 : w7.frozen? ⟨x, 4, none⟩ = false := (by rw [hk7.frozen (a := ⟨x, 4, none⟩) hxz (fun h => by omega)]; exact f4)
               have hwb7 : 0 < cap7 → WR.heap.size ≤ wb7 := (fun hc => by rcases hw7 hc with h | h <;> omega)
               try simp only [List.length_nil, Nat.zero_add])
            | (go_loud (refine wpList_append_want _ rfl (.tmp 132) (.tmp 133) rfl rfl hW7 (fun hc hq => by have := hFz _ hq; have := hwb7 hc; omega) (fun q hq => by have := hFz q hq; omega) hn7 _ l rfl hL7 (by have := HLL.out; omega) ?_)
               intro ao8 cap8 wb8 vs8 w8 hW8 hk8 hn8 hw8
               have c48 := hk8.cell c47 (fun h => by have h2 : x = wb7 := h.2; have := hwb7 h.1; omega)
               have f48 : w8.frozen? ⟨x, 4, none⟩ = false := (by rw [hk8.frozen (a := ⟨x, 4, none⟩) (by show x < _; omega) (fun h => by have h2 : x = wb7 := h.2; have := hwb7 h.1; omega)]; exact f47)))
          go_ret
          have Hrz' := Hrz.out
          rw [HZ2.out, if_pos rfl] at Hrz'
          subst Hrz'
          rw [HZ2.out]
          have hkA : Keeps (fun q => 0 < cap7 ∧ q = wb7) WR w8 := (hk7.mono (fun q h => by omega)).trans hk8
          have hz8 := hkA.size
          have hn78 : ∀ q, (0 < cap7 ∧ q = wb7) → WR.heap.size ≤ q := fun q h => by have := hwb7 h.1; omega
          have hWk8 := HWk.out.keeps hkA (fun h => by have := hn78 _ h; omega) (fun q hq h => by have := hn78 _ h; have := HWk.out.Fl q hq; omega)
          have hDr8 := HDr.out.keeps hkA (fun h => by have := hn78 _ h; have := HDr.out.gl; omega) (fun q hq h => by have := hn78 _ h; have := HDr.out.Fl q hq; omega)
          have hrl8 : (rs ++ l).length = rs.length + l.length := by simp
          have hR8 : Rs w8 (fun q => (Fx q ∨ Fl q) ∨ (WR.heap.size ≤ q ∧ q < w8.heap.size)) (.slice ao8 (rs ++ l).length cap8) (rs ++ l) := hW8.rs2 (fun q hq => .inl hq) (fun hc => by
            obtain ⟨off, -, hl8, -, -⟩ := hW8.spot hc
            refine .inr ⟨?_, hl8⟩
            rcases hw8 hc with ⟨h1, h2⟩ | h
            · rw [h2]; exact hwb7 h1
            · omega)
          have hput := hWk8.put4 (rs' := rs ++ l) hR8 hn8 (fun q hq => by
            rcases hq with hq | hq
            · have h1 := hFz q hq
              refine ⟨by omega, fun e => ?_⟩
              rcases hq with hq | hq
              · exact HWk.out.xF (e ▸ hq)
              · exact (hFl q hq).2.2 e
            · exact ⟨hq.2, fun e => by omega⟩) (by rw [hrl8]; exact hroom) (fun y hy => by
            rcases List.mem_append.1 hy with hy | hy
            · exact HWk.out.ok y hy
            · exact hok y hy)
          rw [hrl8] at hput
          have hkx := keeps_set w8 x 4 (.slice ao8 (rs.length + l.length) cap8)
          have hxO := H.out.xO
          have hxO2 : ¬ OwnX g F2 x := fun h => by
            rcases h with e | e
            · exact hxO (.inl e)
            · rcases hF2 x e with e | e
              · exact hxO (.inr e)
              · omega
          refine ⟨rfl, q2, p2, F2, _, ⟨hDr8.keeps hkx (fun e => hxO2 (.inl e.symm)) (fun q hq e => hxO2 (.inr (by have e' : q = x := e; exact e' ▸ hq))), hput, hxO2, fun q hq => ?_, H.out.fit⟩, ?_, hF2, fun q hq => ?_⟩
          · rintro (e | e)
            · subst e
              rcases hq with hq | hq
              · rcases hq with hq | hq
                · exact H.out.ap _ hq (.inl rfl)
                · exact (hFl _ hq).2.1 (.inl rfl)
              · have := HDr.out.gl; omega
            · have hb := HDr.out.Fl q e
              rcases hq with hq | hq
              · have hz : q < w.heap.size := by
                  rcases hq with hq | hq
                  · exact H.out.rk.Fl q hq
                  · exact (hFl q hq).1
                rcases hF2 q e with e | e
                · rcases hq with hq | hq
                  · exact H.out.ap q hq (.inr e)
                  · exact (hFl q hq).2.1 (.inr e)
                · omega
              · omega
          · exact ((HKp.out.mono (fun q hq => .inl hq)).trans' hkA (fun q hq => .inr (by have := hn78 q hq; omega))).trans (hkx.mono (fun q hq => .inr hq))
          · rcases hq with (hq | hq) | hq
            · exact .inl hq
            · exact .inr (.inl hq)
            · exact .inr (.inr (by omega))

end Go.Proofs.YtjhbljkoapbkfaaGreat
