/- Contract: Append, where records are laid. -/
import Derived.Test.YtjhbljkoapbkfaaGreatM19
set_option linter.unusedSimpArgs false
set_option linter.unusedVariables false

namespace Go.Proofs.YtjhbljkoapbkfaaGreat
open Go.RowKit Go.Attic Go.Shelf
set_option maxRecDepth 100000 in
set_option maxHeartbeats 1000000 in
theorem app_ok {w : World} {r g m : Nat} {p : Option Nat} {F Fr : Nat → Prop} {n base blocks head : Nat} {s : St} {rs : List Rc} (h : RD w r g m p F Fr n base blocks head s rs) (v : Value) (l : List Rc) (Fl : Nat → Prop) (hL : Rs w Fl v l) (hlen : l.length ≤ 140737488355328) (hFl : ∀ k, Fl k → k < w.heap.size ∧ ¬ OwnR r g m F Fr k) (hpl : s.pend.length + 2000 ≤ 1000000) (hops : s.ops + 2000 ≤ 1000000) (hok : ∀ x ∈ l, okRc x) (hroom : rs.length + l.length ≤ 4 * blocks) (hlong : head + rs.length + l.length ≤ 1152921504606846976) (hzz : (layN n base blocks l.length s (head + rs.length) l).2 = 0) :
    Calls Tryz.prog 14 #[.pointer (some ⟨r, 0, none⟩), v] w fun e w' => e = .returned (.int .i64 0) ∧ RTurn w r g m F Fr n base blocks head (layN n base blocks l.length s (head + rs.length) l).1 (rs ++ l) w' := by
  have hR := h.rk
  have hb1 := hR.b1
  have hb2 := hR.b2
  have hb3 := hR.b3
  have hhd := hR.hd
  have hln := hR.ln
  have hm := gMade_yes hR
  have hrl := hR.rl
  obtain ⟨ao, cap, hv, hcap⟩ := hL.slice
  obtain ⟨L, hLL⟩ : ∃ L, l.length = L := ⟨_, rfl⟩
  rw [hLL] at hv hcap hlen
  subst hv
  have HLL := hide hLL
  have HL := hide hL
  have H := hide h
  have HR := hide hR
  clear hLL hL h hR
  go_enter Tryz.func14, Tryz.ntmps14
  go_wp2_with fail
  refine hm.mono ?_
  rintro e w' ⟨rfl, rfl⟩
  clear hm
  go_wp2_with fail
  go_loopw [16] (fun i wr => ∃ k : Nat, k ≤ L ∧ i = .int .i64 (k : Int) ∧ Below w.heap.size w wr) (fun i _ => L - (intOf i).toNat)
  case atStart => exact ⟨0, Nat.zero_le _, rfl, Below.refl _ _⟩
  case round =>
    obtain ⟨k, hk, rfl, hbr⟩ := hrel
    by_cases hkL : k < L
    · have hkl : k < l.length := by have := HLL.out; omega
      obtain ⟨-, lb, lo, u, rfl, hFb, hat, hub, huF⟩ := (HL.out.mono hbr).at k hkl
      have hokr := hok _ (List.getElem_mem hkl)
      generalize l[k] = x at *
      obtain ⟨uao, ucap, rfl, -⟩ := id hub
      have x0 := hat.c0
      have x1 := hat.c1
      have x2 := hat.c2
      have x3 := hat.c3
      have x4 := hat.c4
      have hulen : x.l.length ≤ 44 := okRc_len hokr
      have hch := fun W => check_any x.k x.b x.o x.m x.l.length ucap uao W (by omega)
      simp only [chkR_ok hokr] at hch
      clear hat hub
      go_wp2_with fail
      refine (hch _).mono ?_
      rintro e w4 ⟨rfl, hb4⟩
      go_wp2_with fail
      go_roundw
      case rel => exact ⟨k + 1, by omega, by go_num, (hbr.alloc hbr.size _).trans (hb4.mono (by have := hbr.size; simp; omega))⟩
      case measure => simp [intOf]; omega
    · obtain rfl : k = L := by omega
      clear hk hkL
      have hroomY := room_yes (HR.out.mono hbr)
      have hro : ¬ ((4 * blocks - rs.length : Nat) : Int) < (k : Int) := by have := HLL.out; omega
      have htail := fun nd => tail_yes ((HR.out.mono hbr).mono (below_drewN (Below.refl _ _) nd))
      have hlo : ((head + rs.length : Nat) : Int) + (k : Int) ≤ 1152921504606846976 := by have := HLL.out; omega
      obtain ⟨Z, hZ⟩ : ∃ Z, layN n base blocks l.length s (head + rs.length) l = Z := ⟨_, rfl⟩
      have hlay : ∀ W, Below w.heap.size w W → Calls Tryz.prog 48 #[.agg #[.pointer (some ⟨g, 0, none⟩), .int .i64 (base : Int), .int .i64 (blocks : Int)], .int .i64 ((head + rs.length : Nat) : Int), .slice ao k cap] W fun e w' => e = .returned (.int .i64 Z.2) ∧ Turn W g m F n Z.1 w' := by
        intro W hB
        have q := lay_any (H.out.dk.mono hB) hpl hops base blocks (head + rs.length) hb1 hb2 H.out.fit (by omega) _ l Fl (HL.out.mono hB) (fun b hb => ⟨Nat.lt_of_lt_of_le (hFl b hb).1 hB.size, fun h' => (hFl b hb).2 (.inl h')⟩) (by have := HLL.out; omega) hok
        rw [hZ] at q
        exact q
      rw [hZ] at hzz
      have HZ := hide hZ
      generalize 4 * blocks - rs.length = rm at *
      obtain ⟨tl, htl⟩ : ∃ tl, head + rs.length = tl := ⟨_, rfl⟩
      rw [htl] at htail hlo hlay
      have Htl := hide htl
      clear htl
      have hRr := HR.out.mono hbr
      have c0 := hRr.c0
      have c1 := hRr.c1
      have c2 := hRr.c2
      clear hZ hRr
      go_wp2_with fail
      refine hroomY.mono ?_
      rintro e w4 ⟨rfl, nd, rfl⟩
      go_wp2_with fail
      refine (htail nd).mono ?_
      rintro e w4 ⟨rfl, nd2, rfl⟩
      have htail2 : ∀ W, Below w.heap.size w W → Calls Tryz.prog 16 #[.pointer (some ⟨r, 0, none⟩)] W fun e w' => e = .returned (.int .i64 (tl : Int)) ∧ ∃ n, W.drewN n = w' := fun W hB => (tail_yes (HR.out.mono hB)).mono (by
        rintro e w' ⟨rfl, hh⟩
        exact ⟨by rw [Htl.out], hh⟩)
      have hbX : Below w.heap.size w (wr.drewN (nd + nd2)) := below_drewN hbr _
      have d0 : (wr.drewN (nd + nd2)).cell? ⟨r, 0, none⟩ = some (.pointer (some ⟨g, 0, none⟩)) := c0
      have d1 : (wr.drewN (nd + nd2)).cell? ⟨r, 1, none⟩ = some (.int .i64 (base : Int)) := c1
      have d2 : (wr.drewN (nd + nd2)).cell? ⟨r, 2, none⟩ = some (.int .i64 (blocks : Int)) := c2
      clear hroomY htail c0 c1 c2
      go_wp2_with fail
      generalize wr.drewN (nd + nd2) = X at *
      have hbXd : Below w.heap.size w X.drew := hbX.drew
      have hrXo : ¬ Own g m F r := H.out.rO
      go_region_held3 (fun w' => w'.cell? ⟨r, 0, none⟩ = some (.pointer (some ⟨g, 0, none⟩)) ∧ w'.cell? ⟨r, 1, none⟩ = some (.int .i64 (base : Int)) ∧ w'.cell? ⟨r, 2, none⟩ = some (.int .i64 (blocks : Int)))
        (first | exact ⟨d0, d1, d2⟩ | exact ⟨hkY.cell d0 hrXo, hkY.cell d1 hrXo, hkY.cell d2 hrXo⟩)
        (first
        | (go_at_call 16; refine (htail2 _ hbXd).mono ?_; rintro e X1 ⟨rfl, n1, rfl⟩)
        | (go_at_call 48; refine (hlay _ (below_drewN hbX (1 + n1))).mono ?_; rintro e Y ⟨rfl, pY, FY, hDY, hkY, hFY⟩; rw [hzz]))
      have hkXY : Keeps (Own g m F) X Y := (Keeps.drewN X (1 + n1)).trans hkY
      have hzX : w.heap.size ≤ X.heap.size := hbX.size
      have hRY := (HR.out.mono hbX).keeps hkXY hrXo (fun b hb => H.out.ap b hb)
      have hFY' : ∀ b, FY b → F b ∨ w.heap.size ≤ b := fun b hb => (hFY b hb).imp id (fun h => by have e : (X.drewN (1 + n1)).heap.size = X.heap.size := rfl; omega)
      have hLY : Rs Y Fl (.slice ao k cap) l := (HL.out.mono hbX).keeps hkXY (fun b hb h' => (hFl b hb).2 (.inl h'))
      rename_i hHeld
      have HDY := hide hDY
      have HRY := hide hRY
      have HLY := hide hLY
      clear hHeld hDY hRY hLY hlay htail2 d0 d1 d2 hkY
      obtain ⟨i0, hi, hz0, hz1', hz2'⟩ := info_parts Tryz.info52
      go_wp2_with fail
      go_loopw [50] (fun i wr => ∃ (j : Nat) (Fq : Nat → Prop), j ≤ k ∧ i = .int .i64 (j : Int) ∧ Rk wr r g base blocks head Fq (rs ++ l.take j) ∧ (∀ b, Fq b → Fr b ∨ Y.heap.size ≤ b) ∧ Keeps (fun b => b = r ∨ Fr b) Y wr) (fun i _ => k - (intOf i).toNat)
      case atStart => exact ⟨0, Fr, Nat.zero_le _, rfl, by simpa using HRY.out, fun b hb => .inl hb, Keeps.refl _ _⟩
      case round =>
        obtain ⟨j, Fq, hj, rfl, hRj, hFq, hkj⟩ := hrel
        by_cases hjk : j < k
        · have hjl : j < l.length := by have := HLL.out; omega
          obtain ⟨-, lb, lo, u, rfl, hFb, hat, hub, huF⟩ := (HLY.out.keeps hkj (fun b hb h' => (hFl b hb).2 (.inr h'))).at j hjl
          have hokr := hok _ (List.getElem_mem hjl)
          have htk : rs ++ l.take (j + 1) = (rs ++ l.take j) ++ [l[j]] := by rw [List.take_add_one, List.getElem?_eq_getElem hjl, Option.toList_some, List.append_assoc]
          have hrl2 : (rs ++ l.take j).length = rs.length + j := by simp; omega
          generalize l[j] = x at *
          obtain ⟨uao, ucap, rfl, -⟩ := id hub
          have x0 := hat.c0
          have x1 := hat.c1
          have x2 := hat.c2
          have x3 := hat.c3
          have x4 := hat.c4
          have hulen : x.l.length ≤ 44 := okRc_len hokr
          have hxlt := hub.lt
          obtain ⟨ph, vh, vsh, c4, hWh⟩ := hRj.c4
          obtain ⟨hao, hcp, rfl⟩ := owns_slice hWh.row
          have f4 := hRj.f4
          have hrj := hRj.rl
          generalize rs ++ l.take j = rj at *
          have hrl3 : rj.length ≤ 1024 := by have := HLL.out; omega
          have hro4 : rj.length + 1 ≤ 4 * blocks := by have := HLL.out; omega
          obtain ⟨wb, hwb⟩ : ∃ wb, wr.alloc (.cells #[.int .i64 x.k, .int .i64 x.b, .int .i64 x.o, .slice uao x.l.length ucap, .int .i64 x.m] 52) = wb := ⟨_, rfl⟩
          have kb0 : Below wr.heap.size wr wb := by rw [← hwb]; exact (Below.refl _ _).alloc (Nat.le_refl _) _
          have hRb : RecAt wb wr.heap.size x.k x.b x.o (.slice uao x.l.length ucap) x.m := by rw [← hwb]; exact RecAt.new wr _ _ _ _ _
          obtain ⟨r0, r1, r2, r3, r4⟩ := hRb.held
          have hzb : wb.heap.size = wr.heap.size + 1 := by rw [← hwb]; simp
          have hubb : Bs wb.drew (.slice uao x.l.length ucap) x.l := (hub.mono kb0).drew
          have c4b := (Keeps.of_below (S := fun _ => False) kb0).cell c4 id
          have f4b : wb.frozen? ⟨r, 4, none⟩ = false := by rw [kb0.frozen (p := ⟨r, 4, none⟩) hrj]; exact f4
          have hcl := clone_rec x.k x.b x.o x.m (.slice uao x.l.length ucap) x.l wb.drew hubb (by omega)
          have hpg : some r ≠ (Value.slice hao rj.length hcp).ownBlock := fun e => hRj.Fr (hWh.pF r (hWh.own.symm.trans e.symm))
          have HRj := hide hRj
          have HWh := hide hWh
          have Hub := hide hub
          have Hhat := hide hat
          have Hrl2 := hide hrl2
          have Htk := hide htk
          have HRb := hide hRb
          have Hzb := hide hzb
          clear hRj hWh hub hat hrl2 htk hRb hzb hubb
          go_wp2_with fail
          go_region_law (first
            | (go_simp; refine hcl.mono ?_; rintro e w1 ⟨v1, rfl, ho1, hb1⟩; obtain ⟨ao1, cap1, rfl, _, _⟩ := owns_form ho1
               have hb1' : Below wb.heap.size wb w1 := ⟨hb1.os, hb1.tape, hb1.output, hb1.size, hb1.block⟩
               have hrb : r < wb.heap.size := (by rw [Hzb.out]; omega)
               have c4' : w1.cell? ⟨r, 4, none⟩ = some (.slice hao rj.length hcp) := (by rw [hb1'.cell (p := ⟨r, 4, none⟩) hrb]; exact c4b)
               have f4' : w1.frozen? ⟨r, 4, none⟩ = false := (by rw [hb1'.frozen (p := ⟨r, 4, none⟩) hrb]; exact f4b)
               have c4a := (Keeps.alloc (S := fun _ => False) w1 (.cells #[.int .i64 x.k, .int .i64 x.b, .int .i64 x.o, .slice ao1 x.l.length cap1, .int .i64 x.m] 52)).cell c4' id
               have row1 := (Keeps.of_below (S := fun _ => False) hb1').owns ((Keeps.of_below (S := fun _ => False) kb0).owns HWh.out.row (fun _ _ => id)) (fun _ _ => id)
               skip)
            | (refine step_append_at rfl (.tmp 58) (.tmp 61) 29 rfl 0 52 i0 (.agg #[.int .i64 0, .int .i64 0, .int .i64 0, .slice none 0 0, .int .i64 0]) 5 56 Tryz.underlying29 hi hz0 hz1' hz2' rfl (by decide) (.slice hao rj.length hcp) rj.length (cellsR rj vsh) rfl (row1.alloc _) ⟨w1.heap.size, 0, none⟩ 1 1 [.int .i64 x.k, .int .i64 x.b, .int .i64 x.o, .slice ao1 x.l.length cap1, .int .i64 x.m] rfl rfl (cell_five_new _ _ _ _ _ _ _) (by simp [Value.oneCell']) (by unfold maxLen; omega) (by omega) (by omega) ?_
               intro v2 w2 ho2 hg2 hkin2
               obtain ⟨g2, cap2, rfl⟩ := owns_succ ho2
               have c4'' := hg2.cell c4a hpg
               have f4'' : w2.frozen? ⟨r, 4, none⟩ = false := (by rw [World.frozen?_of_block (w := w1) (a := ⟨r, 4, none⟩) ((hg2.block r (by have := hb1'.size; simp; omega) hpg).trans (Below.heap_alloc _ _ _ (by have := hb1'.size; omega)))]; exact f4')
               skip))
          all_goals
            have hlt1 := ho1.lt
            have hzd : wb.drew.heap.size = wr.heap.size + 1 := Hzb.out
            have hz1 := hb1'.size
            have hzb2 := Hzb.out
            have hown : (Value.slice hao rj.length hcp).ownBlock = ph := HWh.out.own
            rw [hown] at hg2
            have hkin3 : ∀ b, (Value.slice (some ⟨g2, 0, none⟩) (rj.length + 1) cap2).ownBlock = some b → ph = some b ∨ b = w1.heap.size + 1 := by
              intro b hb
              rcases hkin2 with e | e
              · exact .inl (hown.symm.trans (e.symm.trans hb))
              · rw [e] at hb; injection hb with hb; simp at hb; exact .inr (by omega)
            have hpl' : ∀ b, ph = some b → b < wr.heap.size := fun b hb => owns_lt' HWh.out.row b (HWh.out.own.trans hb)
            have hK : Keeps (fun b => ph = some b) wr w2 := ((Keeps.of_below kb0).trans (Keeps.of_below hb1')).trans ((Keeps.alloc w1 _).trans (keeps_grown hg2))
            have hK1 : Keeps (fun b => ph = some b) w1 w2 := (Keeps.alloc w1 _).trans (keeps_grown hg2)
            have hP := HRj.out.pushed (v' := .slice (some ⟨g2, 0, none⟩) (rj.length + 1) cap2) (u := .slice ao1 x.l.length cap1) (x := x) c4 HWh.out hK ho2 (fun b hb => (hkin3 b hb).imp id (fun e => by omega)) (keeps_bs hK1 (Bs.of_owns ho1 hxlt) (fun _ b hb e => by have := hpl' b e; have := (hlt1 b hb).1; omega))
              (fun _ b hb => ⟨fun e => by
                have h4 := hlt1 b hb
                rcases hkin3 b e with e | e
                · have := hpl' b e; omega
                · omega, by have := (hlt1 b hb).1; omega⟩) hro4 hokr
            have hphF : ∀ b, ph = some b → Fq b := fun b hb => HWh.out.pF b hb
            have hzj := hkj.size
            go_wp2_with fail
            go_roundw
            case rel =>
              refine ⟨j + 1, _, by omega, by go_num, by rw [Htk.out]; exact hP, fun b hb => ?_, (hkj.trans' hK (fun b hb => ?_)).trans ((keeps_set w2 r 4 _).mono (fun b hb => .inl hb))⟩
              · rcases hb.1 with h' | h'
                · exact hFq b h'
                · exact .inr (by omega)
              · rcases hFq b (hphF b hb) with h' | h'
                · exact .inl (.inr h')
                · exact .inr h'
            case measure => simp [intOf]; omega
        · obtain rfl : j = k := by omega
          have hlk : l.take j = l := List.take_of_length_le (by have := HLL.out; omega)
          rw [hlk] at hRj
          have HRj := hide hRj
          have Hkj := hide hkj
          clear hRj hkj hlk
          go_wp2_with fail
          go_ret
          rw [HZ.out]
          have hgw := H.out.dk.gl
          have hmw := H.out.dk.ml
          have hFw := H.out.dk.Fl
          have hFrw := HR.out.Fl
          have hzY := hkXY.size
          have hrgm : ∀ b, (b = r ∨ Fr b) → ¬ Own g m F b := fun b hb => by
            rcases hb with rfl | hb
            · exact hrXo
            · exact H.out.ap b hb
          have hYo : ∀ b, b < w.heap.size → Own g m FY b → Own g m F b := fun b hbw hb => by
            rcases hb with hb | hb | hb
            · exact .inl hb
            · exact .inr (.inl hb)
            · rcases hFY' b hb with h' | h'
              · exact .inr (.inr h')
              · omega
          have hlow : ∀ b, (b = r ∨ Fr b) → b < w.heap.size := fun b hb => by
            rcases hb with rfl | hb
            · exact hrl
            · exact hFrw b hb
          refine ⟨by simp, pY, FY, Fq, ⟨HDY.out.keeps Hkj.out (fun h' => hrgm _ h' (.inl rfl)) (fun h' => hrgm _ h' (.inr (.inl rfl))) (fun b hb h' => hrgm b h' (hYo b (hlow b h') (.inr (.inr hb)))), HRj.out, fun h' => hrXo (hYo r hrl h'), fun b hb h' => ?_, H.out.fit⟩, ?_, ?_⟩
          · rcases hFq b hb with h1 | h1
            · exact H.out.ap b h1 (hYo b (hFrw b h1) h')
            · rcases h' with h' | h' | h'
              · omega
              · omega
              · have := HDY.out.Fl b h'; omega
          · exact (Keeps.of_below hbX).trans ((hkXY.mono (fun b hb => .inl hb)).trans (Hkj.out.mono (fun b hb => .inr hb)))
          · intro b hb
            rcases hb with hb | hb
            · rcases hFY' b hb with h' | h'
              · exact .inl h'
              · exact .inr (.inr h')
            · rcases hFq b hb with h' | h'
              · exact .inr (.inl h')
              · exact .inr (.inr (by omega))


end Go.Proofs.YtjhbljkoapbkfaaGreat
