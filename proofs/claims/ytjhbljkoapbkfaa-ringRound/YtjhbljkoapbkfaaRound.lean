/- RingRound: a ring on which nothing crashed, opened again from its head, tells what it held, however often it went round. No conditions. -/
import Derived.Test.YtjhbljkoapbkfaaRd0
import Derived.Deep.CutBlock
import Derived.Deep.DeepCutAuto
set_option linter.unusedSimpArgs false
set_option linter.unusedVariables false
namespace Go.Proofs.Ytjhbljkoapbkfaa
open Go.RowKit Go.Attic Go.ChangeShapes Go.WideShapes Go.Shelf

/-- What stands between two operations of a script. -/
def RoundI (w wr : World) (r g m nb k : Nat) (wv : Value) : Prop :=
  ∃ F Fr head rs, Rn w wr r g m F Fr nb (28 * k) head rs ∧ Wn w wr (OwnR r g m F Fr) wv rs

theorem Rn.below {w wr : World} {r g m : Nat} {F Fr : Nat → Prop} {nb c head : Nat} {rs : List Rc} (h : Rn w wr r g m F Fr nb c head rs) : Below w.heap.size w wr := by
  obtain ⟨p, s, h1, h2, h3, h4, h5, h6, h7⟩ := h
  exact h7
theorem Rn.apart {w wr : World} {r g m : Nat} {F Fr : Nat → Prop} {nb c head : Nat} {rs : List Rc} (h : Rn w wr r g m F Fr nb c head rs) (b : Nat) (hb : wr.heap.size ≤ b) : ¬ OwnR r g m F Fr b := fun ho => by
  obtain ⟨p, s, h1, h2, h3, h4, h5, h6, h7⟩ := h
  have := h1.lt2 b ho
  omega
theorem RoundI.put {w wr : World} {r g m nb k c head : Nat} {F Fr : Nat → Prop} {rs : List Rc} {wv : Value} (h : Rn w wr r g m F Fr nb c head rs) (hW : Wn w wr (OwnR r g m F Fr) wv rs) (hc : c ≤ 28 * k) : RoundI w wr r g m nb k wv :=
  ⟨F, Fr, head, rs, h.still (Below.refl _ _) hc, hW⟩
theorem Rn.len {w wr : World} {r g m : Nat} {F Fr : Nat → Prop} {nb c head : Nat} {rs : List Rc} (h : Rn w wr r g m F Fr nb c head rs) : rs.length ≤ 4 * nb := by
  obtain ⟨p, s, h1, h2, h3, h4, h5, h6, h7⟩ := h
  exact h1.rk.ln
theorem Wn.slice {w wr : World} {O : Nat → Prop} {wv : Value} {ws : List Rc} (h : Wn w wr O wv ws) : ∃ ao cap, wv = .slice ao ws.length cap := by
  obtain ⟨ao, cap, wb, vs, e, hW, hn, ha⟩ := h
  exact ⟨ao, cap, e⟩

set_option maxRecDepth 100000 in
set_option maxHeartbeats 2000000 in
theorem round_walk (b0 : Nat) (hb0 : b0 < 256) (v : Value) (l : List OpX) (w : World) (hl : Ops w (fun k => k < w.heap.size) v l) (hll : l.length ≤ 140737488355328) :
    Calls Try.prog 5 #[.int .u8 (b0 : Int), v] w fun e w' => e = .returned (.bool true) ∧ Below w.heap.size w w' := by
  obtain ⟨ao, cap, rfl, hcap, hops⟩ := hl
  obtain ⟨q, hq⟩ : ∃ q, min l.length 60 = q := ⟨_, rfl⟩
  obtain ⟨nb, hnb⟩ : ∃ nb, 1 + b0 % 6 = nb := ⟨_, rfl⟩
  have hnb1 : 1 ≤ nb ∧ nb ≤ 6 := by omega
  have hnbi : 1 + (b0 : Int) % 6 = (nb : Int) := by omega
  have Hops := hide hops
  have Hq := hide hq
  clear hops hq
  go_enter Try.func5, Try.ntmps5
  go_wp2_with fail
  refine (new_yes 8 w (by omega) (by omega)).mono ?_
  rintro e w1 ⟨g, m, rfl, hD1, hb1, hg1, hm1⟩
  go_wp2_with fail
  refine (live_any _).mono ?_
  rintro e w2 ⟨rfl, hb2⟩
  have hb02 : Below w.heap.size w w2 := hb1.trans (hb2.mono hb1.size)
  have hz2 : w.heap.size ≤ w2.heap.size := hb02.size
  have hD2 := hD1.mono hb2
  have hopen := open_on hD2 rfl (Nat.zero_le _) 1 nb 100 (by omega) (by omega) (by omega) (by omega)
  go_wp2_with fail
  refine hopen.mono ?_
  rintro e w3 ⟨rs, r, vt, Fr, rfl, hsc, hR3, hr3, hFr3, hRs3, hb3⟩
  obtain rfl := scanned_new (by omega) (by omega) hsc
  have hRD3 := RD.opened hD2 hb3 hR3 hr3 hFr3 (by omega)
  obtain ⟨ao3, cap3, hvt, -⟩ := hRs3.slice
  subst hvt
  have hb03 : Below w.heap.size w w3 := hb02.trans (hb3.mono hb02.size)
  have hI0 : RoundI w w3 r g m nb 0 (.slice none 0 0) := by
    refine ⟨_, Fr, 100, [], ⟨none, newS 8, hRD3, Cal.new nb 100, Nat.le_refl _, Nat.zero_le _, Nat.zero_le _, fun k hk => ?_, hb03⟩, Wn.nil _ _ _⟩
    rcases hk with (h | h | h) | h | h
    · omega
    · omega
    · exact h.elim
    · omega
    · have := hFr3 k h; omega
  have HI0 := hide hI0
  clear hopen hsc hRs3 hI0 hR3 hRD3 hD2 hD1
  have hq60 : q ≤ 60 := by have := Hq.out; omega
  have hqc : q ≤ cap := by have := Hq.out; omega
  go_wp2_with fail
  case' inl => rw [show (max (60 : Int) 0) = ((q : Nat) : Int) by have := Hq.out; omega, show Value.slice ao 60 cap = Value.slice ao q cap by rw [show (60 : Nat) = q by have := Hq.out; omega]]
  case' inr => rw [show l.length = q by have := Hq.out; omega]
  all_goals
    go_loopw [10, 55] (fun wv i wr => ∃ k : Nat, k ≤ q ∧ i = .int .i64 (k : Int) ∧ Hid (RoundI w wr r g m nb k wv)) (fun _ i _ => q - (intOf i).toNat)
    case atStart => exact ⟨0, by omega, rfl, HI0⟩
    case round =>
      clear HI0
      obtain ⟨k, hk, rfl, HP⟩ := hrel
      by_cases hkq : k < q
      · have hkl : k < l.length := by have := Hq.out; omega
        obtain ⟨F, Fr, hd, rs, hRn, hWn⟩ := HP.out
        obtain ⟨ob, oo, rfl, hoat⟩ := Hops.out (by omega)
        obtain ⟨vl, vp, hx⟩ := hoat k hkl
        have hB := hRn.below
        have hzB := hB.size
        have hx1 := hx.keeps (S := fun b => w.heap.size ≤ b) ⟨hB.os, hB.tape, hB.output, hB.size, fun b hb hn => hB.block b (by omega)⟩ (fun b hb h => by omega)
        generalize l[k] = x at *
        have x0 := hx1.c0
        have x1 := hx1.c1
        have x2 := hx1.c2
        have x3 := hx1.c3
        obtain ⟨la, lc, rfl, hlc⟩ := hx1.rs.slice
        obtain ⟨pa, pc, rfl, -⟩ := id hx1.bs
        obtain ⟨wb, hwb⟩ : ∃ wb, wr.alloc (.cells #[.int .i64 x.d, .slice la x.L.length lc, .int .i64 x.n, .slice pa x.picks.length pc] 41) = wb := ⟨_, rfl⟩
        have kb : Below wr.heap.size wr wb := by rw [← hwb]; exact (Below.refl _ _).alloc (Nat.le_refl _) _
        have y0 : wb.cell? ⟨wr.heap.size, 0, none⟩ = some (.int .i64 x.d) := by rw [← hwb]; simp
        have y1 : wb.cell? ⟨wr.heap.size, 1, none⟩ = some (.slice la x.L.length lc) := by rw [← hwb]; simp
        have y2 : wb.cell? ⟨wr.heap.size, 2, none⟩ = some (.int .i64 x.n) := by rw [← hwb]; simp
        have hBb : Below w.heap.size w wb := hB.trans (kb.mono hzB)
        have hxb := hx1.keeps (Keeps.of_below (S := fun _ => False) kb) (fun _ _ => id)
        have hzb : wr.heap.size < wb.heap.size := by rw [← hwb]; simp
        have hRb := hRn.still kb (Nat.le_refl _)
        have hWb := hWn.wide.still kb
        have hnO : ¬ OwnR r g m F Fr wr.heap.size := hRn.apart _ (Nat.le_refl _)
        have Hx := hide hxb
        have HRb := hide hRb
        have HWb := hide hWb
        clear hx hx1 hxb hRb hWb hRn hWn hoat HP
        have hln : rs.length ≤ 4 * nb := HRb.out.len
        obtain ⟨wao, wcap, hwv⟩ := HWb.out.slice
        subst hwv
        go_upto_block 2 with fail
        go_cut [10] (fun s10 wx => Hid (RoundI w wx r g m nb (k + 1) s10))
        case first =>
          by_cases h0 : x.d = 0
          · have h0b : (x.d == 0) = true := by simp [h0]
            obtain ⟨p0, s0, hRD0, -⟩ := HRb.out
            have hrm := room_yes hRD0.rk
            clear hRD0 h0
            go_wp2_with fail
            refine hrm.mono ?_
            rintro e w4 ⟨rfl, n4, hw4⟩
            have hb4 : Below wb.heap.size wb w4 := hw4 ▸ below_drewN (Below.refl _ _) n4
            have Hx4 := hide (Hx.out.keeps (Keeps.of_below (S := fun _ => False) hb4) (fun _ _ => id))
            have y14 : w4.cell? ⟨wr.heap.size, 1, none⟩ = some (.slice la x.L.length lc) := by rw [← hw4]; exact y1
            have HR4 := hide (HRb.out.still hb4 (Nat.le_refl _))
            have HW4 := hide (HWb.out.still hb4)
            have hz4 := hb4.size
            clear HRb HWb hrm hw4
            rcases rn_app hzB HR4.out (by omega) HW4.out _ x.L Hx4.out.rs Hx4.out.ll Hx4.out.ls with ⟨hfit, hA⟩ | ⟨er, her, hA⟩
            · have hroom : ¬ (((4 * nb - rs.length : Nat) : Int) < ((x.L.length : Nat) : Int)) := by omega
              have hroomb : decide (4 * nb - rs.length < x.L.length) = false := by simp; omega
              have hfit' := hide hfit
              go_wp2_with fail
              refine hA.mono ?_
              rintro e w5 ⟨rfl, hL5, hk5, F5, Fr5, hR5, hW5⟩
              have y15 := hk5.cell y14 hnO
              have HL5 := hide hL5
              have HR5 := hide hR5
              have HW5 := hide hW5
              have hz5 := hk5.size
              have hB5 := hR5.below.size
              clear hA hL5 hR5 hW5
              go_wp2_with (at_builtin; refine wpList_append_wn w _ hB5 rfl (.tmp 71) (.tmp 73) rfl rfl HW5.out (fun k hk => hk.elim (fun h => Nat.lt_of_not_le (fun hn => HR5.out.apart _ hn h)) (fun e => by omega)) _ _ rfl HL5.out (by omega) ?_; intro wv6 w6 hW6 hk6; have y16 := hk6.cell y15 (fun h => h.2 (.inr rfl)))
              have HI6 := hide (RoundI.put (k := k + 1) (HR5.out.keeps hk6 (fun k hk => ⟨hk.1, fun h => hk.2 (.inl h)⟩)) (hW6.narrow (fun k hk => .inl hk)) (by omega))
              clear HR5 HW5 hk6 hW6
              go_meet
              case rel => exact HI6
            · have HI4 := hide (fun wx (hb : Below w4.heap.size w4 wx) => RoundI.put (k := k + 1) (c := 28 * k) (HR4.out.still hb (Nat.le_refl _)) ((HW4.out.still hb).narrow (fun k hk => .inl hk)) (by omega))
              rcases her with rfl | ⟨rfl, hov⟩
              · go_wp2_with fail
                refine hA.mono ?_
                rintro e w5 ⟨rfl, hb5⟩
                have y15 : w5.cell? ⟨wr.heap.size, 1, none⟩ = some (.slice la x.L.length lc) := (Keeps.of_below (S := fun _ => False) hb5).cell y14 id
                have HI5 := hide (HI4.out _ hb5)
                clear hA HI4 hb5
                go_wp2_with fail
                all_goals
                  go_meet
                  case rel => exact HI5
              · have hroom : ((4 * nb - rs.length : Nat) : Int) < ((x.L.length : Nat) : Int) := by omega
                have hroomb : decide (4 * nb - rs.length < x.L.length) = true := by simp; omega
                go_wp2_with fail
                refine hA.mono ?_
                rintro e w5 ⟨rfl, hb5⟩
                have y15 : w5.cell? ⟨wr.heap.size, 1, none⟩ = some (.slice la x.L.length lc) := (Keeps.of_below (S := fun _ => False) hb5).cell y14 id
                have HI5 := hide (HI4.out _ hb5)
                clear hA HI4 hb5
                go_wp2_with fail
                go_meet
                case rel => exact HI5
          · have h0b : (x.d == 0) = false := by simp [h0]
            have HIS := hide (fun wx (hb : Below wb.heap.size wb wx) => RoundI.put (k := k + 1) (c := 28 * k) (HRb.out.still hb (Nat.le_refl _)) ((HWb.out.still hb).narrow (fun k hk => .inl hk)) (by omega))
            by_cases h2 : x.d = 2
            · have h2b : (x.d == 2) = true := by simp [h2]
              by_cases hn0 : 0 ≤ x.n
              · obtain ⟨c, hc⟩ : ∃ c : Nat, x.n = (c : Int) := ⟨x.n.toNat, by omega⟩
                rw [hc] at x2 y2 hwb
                by_cases hle : c ≤ rs.length
                · clear h0 h2 HIS
                  have hle' : decide (c ≤ rs.length) = true := by simp [hle]
                  obtain ⟨p0, s0, hRD0, -, hhd0, -⟩ := id HRb.out
                  have hbd : Below wb.heap.size wb wb.drew := (Below.refl _ _).drew
                  have hhX := head_yes (hRD0.mono hbd).rk
                  have htX := rn_trim hzB (HRb.out.still hbd (Nat.le_refl _)) (by omega) (HWb.out.still hbd) c hle
                  have hwa : IntKind.i64.wrap ((hd : Int) + (c : Int)) = ((hd + c : Nat) : Int) := by rw [show (hd : Int) + (c : Int) = ((hd + c : Nat) : Int) by omega]; exact wrap_small (by omega)
                  generalize hdc : hd + c = hc' at *
                  have Hdc := hide hdc
                  clear hdc hRD0 HRb HWb
                  go_wp2_with fail
                  go_region_held3 (fun w' => w'.cell? ⟨wr.heap.size, 2, none⟩ = some (.int .i64 (c : Int)))
                    (first | exact y2 | exact hk4.cell y2 hnO)
                    (first
                    | (go_at_call 17; refine hhX.mono ?_; rintro e y1 ⟨rfl, rfl⟩)
                    | (go_at_call 18; refine htX.mono ?_; rintro e w4 ⟨rfl, hk4, F4, Fr4, hR4, hW4⟩))
                  have y24 := hk4.cell y2 hnO
                  have HI4 := hide (RoundI.put (k := k + 1) hR4 ((hW4.cut c hle).narrow (fun k hk => .inl hk)) (by omega))
                  have HI4a : wcap = c → Hid (RoundI w w4 r g m nb (k + 1) (.slice wao (rs.length - c) 0)) := fun e => hide (by simpa [e] using HI4.out)
                  have HI4b : ¬ wcap = c → Hid (RoundI w w4 r g m nb (k + 1) (.slice (Option.map (fun x => x.add (c * 5)) wao) (rs.length - c) (wcap - c))) := fun e => hide (by simpa [e] using HI4.out)
                  rename_i hHeld
                  clear hHeld hR4 hW4 hk4 htX hhX HI4
                  go_wp2_with fail
                  all_goals
                    go_meet
                    case rel => first | exact HI4a (by assumption) | exact HI4b (by assumption)
                · have hle' : decide (c ≤ rs.length) = false := by simp; omega
                  have HI4 := hide (HIS.out _ (Below.refl _ _))
                  clear h0 h2 HIS
                  go_wp2_with fail
                  go_meet
                  case rel => exact HI4
              · have hn0' : decide (0 ≤ x.n) = false := by simp; omega
                have HI4 := hide (HIS.out _ (Below.refl _ _))
                clear h0 h2 HIS
                go_wp2_with fail
                go_meet
                case rel => exact HI4
            · have h2b : (x.d == 2) = false := by simp [h2]
              have HI4 := hide (HIS.out _ (Below.refl _ _))
              clear h0 h2 HIS
              go_wp2_with fail
              go_meet
              case rel => exact HI4
        case rest =>
          clear HRb HWb Hx y0 y1 y2 hwb x0 x1 x2 x3 hln hnO
          obtain ⟨F5, Fr5, hd5, rs5, hRn5, hWn5⟩ := hcut.out
          obtain ⟨wao5, wcap5, rfl⟩ := hWn5.slice
          obtain ⟨p5, s5, hRD5, hcal5, b51, b52, b53, hO5, hB5⟩ := id hRn5
          have hln5 := hRD5.rk.ln
          have hhd5 := head_yes hRD5.rk
          have hop5 := open_on hRD5.dk hcal5.on (by omega) 1 nb hd5 (by omega) (by omega) (by omega) (by omega)
          have HR5 := hide hRD5
          have HC5 := hide hcal5
          have HN5 := hide hRn5
          have HW5 := hide hWn5
          clear hRD5 hcal5 hRn5 hWn5 hO5
          go_wp2_with fail
          refine hhd5.mono ?_
          rintro e w' ⟨rfl, rfl⟩
          go_wp2_with fail
          refine hop5.mono ?_
          rintro e w6 ⟨rs6, r6, vt6, Fr6, rfl, hsc6, hR6, hr6, hFr6, hRs6, hb6⟩
          have hokb := HR5.out.rk.ok
          obtain rfl := HC5.out.scan (by omega) (by omega) hln5 hokb (by omega) hsc6
          have hb65 := hb6.size
          obtain ⟨Fw, hRw⟩ := (HW5.out.still hb6).rs
          have hsame := sameAll_yes w6 _ _ _ _ rs6 hRs6 hRw (by omega)
          obtain ⟨vao6, vcap6, rfl, -⟩ := hRs6.slice
          have hT6 : ∀ W, Below w6.heap.size w6 W → Calls Try.prog 15 #[.pointer (some ⟨r6, 0, none⟩)] W fun e w' => e = .returned (.int .i64 ((hd5 + rs6.length : Nat) : Int)) ∧ Below w6.heap.size w6 w' := fun W hW => (tail_yes (hR6.mono hW)).mono (fun e w' ⟨u1, n1, u2⟩ => ⟨u1, u2 ▸ below_drewN hW n1⟩)
          have hT5 : ∀ W, Below w6.heap.size w6 W → Calls Try.prog 15 #[.pointer (some ⟨r, 0, none⟩)] W fun e w' => e = .returned (.int .i64 ((hd5 + rs6.length : Nat) : Int)) ∧ Below w6.heap.size w6 w' := fun W hW => (tail_yes ((HR5.out.mono hb6).mono hW).rk).mono (fun e w' ⟨u1, n1, u2⟩ => ⟨u1, u2 ▸ below_drewN hW n1⟩)
          have hM6 : ∀ W, Below w6.heap.size w6 W → Calls Try.prog 20 #[.pointer (some ⟨r6, 0, none⟩)] W fun e w' => e = .returned (.int .i64 ((4 * nb - rs6.length : Nat) : Int)) ∧ Below w6.heap.size w6 w' := fun W hW => (room_yes (hR6.mono hW)).mono (fun e w' ⟨u1, n1, u2⟩ => ⟨u1, u2 ▸ below_drewN hW n1⟩)
          have hM5 : ∀ W, Below w6.heap.size w6 W → Calls Try.prog 20 #[.pointer (some ⟨r, 0, none⟩)] W fun e w' => e = .returned (.int .i64 ((4 * nb - rs6.length : Nat) : Int)) ∧ Below w6.heap.size w6 w' := fun W hW => (room_yes ((HR5.out.mono hb6).mono hW).rk).mono (fun e w' ⟨u1, n1, u2⟩ => ⟨u1, u2 ▸ below_drewN hW n1⟩)
          have hsub : (4 : Int) * (nb : Int) - (rs6.length : Int) = ((4 * nb - rs6.length : Nat) : Int) := by omega
          have HT := hide (fun wx (hb : Below w6.heap.size w6 wx) => RoundI.put (k := k + 1) ((HN5.out.still hb6 (Nat.le_refl _)).still hb (Nat.le_refl _)) ((HW5.out.still hb6).still hb) (Nat.le_refl _))
          generalize hd5 + rs6.length = tl at *
          generalize 4 * nb - rs6.length = rm at *
          clear hsc6 hR6 hFr6 hRs6 hb6 hop5 hhd5 HR5 HC5 HN5 HW5 hokb hcut hRw
          go_wp2_with fail
          refine hsame.mono ?_
          rintro e w7 ⟨rfl, hb7⟩
          clear hsame
          go_wp2_with fail
          refine (hT6 _ hb7).mono ?_
          rintro e w8 ⟨rfl, hb8⟩
          clear hT6 hb7
          go_wp2_with fail
          refine (hT5 _ hb8).mono ?_
          rintro e w9 ⟨rfl, hb9⟩
          clear hT5 hb8
          go_wp2_with fail
          refine (hM6 _ hb9).mono ?_
          rintro e w10 ⟨rfl, hb10⟩
          clear hM6 hb9
          go_wp2_with fail
          refine (hM5 _ hb10).mono ?_
          rintro e w11 ⟨rfl, hb11⟩
          clear hb10
          go_wp2_with fail
          refine (hM5 _ hb11).mono ?_
          rintro e w12 ⟨rfl, hb12⟩
          clear hM5 hb11
          have HE := hide (HT.out _ hb12)
          clear HT hb12
          go_wp2_with fail
          go_roundw
          case rel => exact ⟨k + 1, by omega, by go_num, HE⟩
          case measure => simp [intOf]; omega
      · obtain rfl : k = q := by omega
        obtain ⟨F, Fr, hd, rs, hRn, hWn⟩ := HP.out
        have hB := hRn.below
        clear HP hRn hWn
        go_wp2_with fail
        go_ret
        exact ⟨by simp, hB⟩
set_option maxRecDepth 100000 in
theorem ringRound_lifted (os : Os) (started : os.Started) (H : Type) (enc : TypeId × Value → H) :
    ReturnsInHanded {} Try.checked os 5 .any (Rows.ringRoundSpec.pre6 enc Try.prog Try.f5 Rows.ringRoundRow.domain false) (Rows.ringRoundSpec.post enc Try.prog Try.f5 false true false false) := by
  refine law_frame (C := Try.checked) rfl Try.own started (by kernel_rfl) Try.func5
    (ChangeSpec.witness6 (enc := enc) (C := Try.checked) false ⟨#[], #[.int .u8 0, .slice none 0 0], []⟩ 8 (by kernel_rfl) (by kernel_rfl) (by kernel_rfl) (by kernel_rfl))
    Try.laidOut ?_ 4 rfl Try.underlying4 ?_ ?_
  · rw [Try.params5]
    intro t ht
    simp at ht
    rcases ht with rfl | rfl <;> exact ⟨by kernel_rfl, of_decide_eq_true (by kernel_rfl)⟩
  · intro ds hn
    rw [Try.params5] at hn
    match ds, hn with
    | [d1, d2], _ => rfl
  · intro W base args ds p hval0 hA hsz
    have hval : ∀ (j : Nat) t v, Try.f5.params[j]? = some t → args[j]? = some v → Value.okWide Try.prog W .any base t v := hval0
    rw [Try.params5] at hA hsz hval
    obtain ⟨v0, vs0, d0, ds0, p0, q0, hargs, rfl, rfl, h0, r0⟩ := trodAll_cons hA
    obtain ⟨v1, vs1, d1, ds1, p1, q1, rfl, rfl, rfl, h1, r1⟩ := trodAll_cons r0
    obtain ⟨rfl, rfl, rfl⟩ := trodAll_nil r1
    obtain rfl : args = #[v0, v1] := by cases args; simp_all
    obtain ⟨a0, rfl, rfl, rfl, w0⟩ := open_int Try.underlying5 (hval 0 5 v0 rfl rfl) h0
    have hb0 := bounds_u8 w0
    obtain ⟨n0, rfl⟩ := Int.eq_ofNat_of_zero_le hb0.1
    obtain ⟨l1, hop1, hol1⟩ := Ops.came (hval 1 38 v1 rfl rfl) h1 hsz (j := 1) rfl rfl
    exact round_walk n0 (by omega) v1 l1 W hop1 hol1

theorem ringRound_holds : Rows.RingRoundSaid :=
  OpenClaim.holds_of_wide 5 Try.f5 rfl rfl rfl rfl rfl rfl rfl ⟨rfl, rfl, rfl, rfl, rfl⟩ rfl rfl rfl rfl rfl (by kernel_rfl) Try.func5 (by kernel_rfl)
    (of_decide_eq_true (by kernel_rfl)) (by unfold Func.isWrapper; first | (rw [if_pos (by decide +kernel)]; kernel_rfl) | (rw [if_neg (by decide +kernel)]; exact ⟨rfl, rfl⟩))
    (fun os started H enc _ => ringRound_lifted os started H enc)
#print axioms ringRound_holds

end Go.Proofs.Ytjhbljkoapbkfaa
