/- Contract: replay.Committed. -/
import Derived.Test.YtgdlbfoihpdlhaaK1
import Derived.Test.YtgdlbfoihpdlhaaP1
set_option linter.unusedSimpArgs false
set_option linter.unusedVariables false
namespace Go.Proofs.Ytgdlbfoihpdlhaa
open Go.RowKit Go.Attic

/-- Records of the call's own, and a number. -/
def NewRcN (w : World) (out : List Rc) (n : Int) (e : Ending) (w' : World) : Prop :=
  ∃ v p vs, e = .returned (.tuple #[v, .int .i64 n]) ∧ Rw w' p (fun k => w.heap.size ≤ k) v out vs ∧ Below w.heap.size w w'

theorem drop_at {rs : List Rc} {k : Nat} (hk : k < rs.length) : rs.drop k = rs[k] :: rs.drop (k + 1) := List.drop_eq_getElem_cons hk
theorem wait_more {rs : List Rc} {k n : Nat} (hk : k < rs.length) (hn : n ≤ k) : (rs.take (k + 1)).drop n = (rs.take k).drop n ++ [rs[k]] := by
  rw [List.take_succ_eq_append_getElem hk, List.drop_append_of_le_length (by simp; omega)]
theorem wait_len {rs : List Rc} {k n : Nat} (hk : k ≤ rs.length) : ((rs.take k).drop n).length = k - n := by simp; omega

set_option maxRecDepth 100000 in
set_option maxHeartbeats 2000000 in
theorem comm_any {w : World} {F : Nat → Prop} {v : Value} {rs : List Rc} (h : Rs w F v rs) (hlen : rs.length ≤ 1000) (hls : ∀ r ∈ rs, r.l.length ≤ 140737488355328) :
    Calls Try.prog 11 #[v] w (NewRcN w (commit rs).1 (commit rs).2) := by
  obtain ⟨i0, hi, hz0, hz1, hz2⟩ := info_parts Try.info48
  obtain ⟨ao, cap, e, hcap⟩ := h.slice
  subst e
  obtain ⟨L, hL⟩ : ∃ L, rs.length = L := ⟨_, rfl⟩
  rw [hL] at hlen hcap
  rw [hL]
  obtain ⟨G, hG⟩ : ∃ G, commit rs = G := ⟨_, rfl⟩
  rw [hG]
  have HG := hide hG
  have HL := hide hL
  have H := hide h
  have Hls := hide hls
  clear h hL hls hG
  go_enter Try.func11, Try.ntmps11
  go_wp2_with fail
  go_loopw [4, 5, 12] (fun pv nv iv wr => ∃ (k n : Nat) (out : List Rc) (p : Option Nat) (vs : List Value), k ≤ L ∧ n ≤ k ∧ out.length ≤ n ∧ iv = .int .i64 (k : Int) ∧ nv = .int .i64 (n : Int) ∧ comm (rs.drop k) ((rs.take k).drop n) out n k = G ∧ Rw wr p (fun j => w.heap.size ≤ j) pv out vs ∧ Below w.heap.size w wr) (fun _ _ iv _ => L - (intOf iv).toNat)
  case atStart => exact ⟨0, 0, [], none, [], Nat.zero_le _, Nat.zero_le _, Nat.le_refl _, rfl, rfl, by simpa [commit] using HG.out, Rw.nil _ _, Below.refl _ _⟩
  case round =>
    obtain ⟨k, n, out, p, vs, hk, hn, hout, rfl, rfl, hcm, hrw, hbr⟩ := hrel
    obtain ⟨pa, pc, rfl⟩ := owns_slice hrw.row
    by_cases hkL : k < L
    · have hkl : k < rs.length := by have := HL.out; omega
      obtain ⟨-, b1, o1, u1, rfl, -, hat, hub, -⟩ := (H.out.mono hbr).at k hkl
      have hll := Hls.out _ (List.getElem_mem hkl)
      rw [drop_at hkl] at hcm
      have hwl := wait_len (rs := rs) (n := n) (Nat.le_of_lt hkl)
      have hwm := wait_more hkl hn
      generalize hx : rs[k] = x at *
      obtain ⟨ua, uc, rfl, -⟩ := id hub
      have x0 := hat.c0
      have x1 := hat.c1
      have x2 := hat.c2
      have x3 := hat.c3
      have x4 := hat.c4
      obtain ⟨wa, hwa⟩ : ∃ wa, wr.alloc (.cells #[.int .i64 x.k, .int .i64 x.b, .int .i64 x.o, .slice ua x.l.length uc, .int .i64 x.m] 48) = wa := ⟨_, rfl⟩
      have hRa : RecAt wa wr.heap.size x.k x.b x.o (.slice ua x.l.length uc) x.m := by rw [← hwa]; exact RecAt.new wr _ _ _ _ _
      have hba : Below w.heap.size w wa := by rw [← hwa]; exact hbr.alloc (by have := hbr.size; omega) _
      have hrwa : Rw wa p (fun j => w.heap.size ≤ j) (.slice pa out.length pc) out vs := by rw [← hwa]; exact hrw.mono ((Below.refl _ _).alloc (Nat.le_refl _) _)
      have Hcm := hide hcm
      have Hwl := hide hwl
      have Hwm := hide hwm
      have Hx := hide hx
      have Hat := hide hat
      have Hub := hide hub
      clear hcm hwl hwm hx hat hub hrw
      obtain ⟨r0, r1, r2, r3, r4⟩ := hRa.held
      go_wp2_with fail
      refine (check_any _ _ _ _ _ _ _ wa hll).mono ?_
      rintro e w1 ⟨rfl, hb1⟩
      have hRa1 := hRa.mono hb1
      have hba1 := hba.trans (hb1.mono hba.size)
      have hrw1 := hrwa.mono hb1
      obtain ⟨q0, q1, q2, q3, q4⟩ := hRa1.held
      have HRa1 := hide hRa1
      clear r0 r1 r2 r3 r4 hRa hRa1 hrwa hwa
      cases hok : okb x with
      | false =>
        rw [okb_no hok]
        have hres := (comm_no hok).symm.trans Hcm.out
        go_wp2_with fail
        refine bodyPost_ret (v := .tuple #[.slice pa out.length pc, .int .i64 (n : Int)]) (by simp [results, Try.results11, go_sem]) rfl ?_
        exact ⟨_, _, _, by rw [← hres], by rw [← hres]; exact hrw1, hba1⟩
      | true =>
        rw [okb_chk hok]
        have Hok := hide hok
        clear hok
        by_cases hk1 : x.k = 1
        · have hres := (comm_patch Hok.out hk1).symm.trans Hcm.out
          rw [← Hwm.out] at hres
          have Hres := hide hres
          clear hres
          go_wp2_with fail
          go_roundw
          case rel => exact ⟨k + 1, n, out, p, vs, by omega, by omega, hout, by go_num, rfl, Hres.out, hrw1, hba1⟩
          case measure => simp [intOf]; omega
        · by_cases hm : x.m = (k : Int) - (n : Int)
          · have hres := (comm_counts (rs := rs.drop (k + 1)) (out := out) (n := n) (i := k) Hok.out hk1 (by rw [Hwl.out]; omega)).symm.trans Hcm.out
            have Hres := hide hres
            clear hres
            have hkb : (x.k == 1) = false := by simp [hk1]
            go_wp2_with fail
            obtain ⟨W, hW⟩ : ∃ W, (rs.take k).drop n = W := ⟨_, rfl⟩
            have hWl := Hwl.out
            rw [hW] at hWl
            have HW := hide hW
            have HWl := hide hWl
            clear hW hWl
            go_loopw [4, 34] (fun pv jv wq => ∃ (j : Nat) (p' : Option Nat) (vs' : List Value), j ≤ k - n ∧ jv = .int .i64 (j : Int) ∧ Rw wq p' (fun j => w.heap.size ≤ j) pv (out ++ W.take j) vs' ∧ Below w.heap.size w wq) (fun _ jv _ => (k - n) - (intOf jv).toNat)
            case atStart => exact ⟨0, p, vs, Nat.zero_le _, rfl, by simpa using hrw1, hba1⟩
            case round =>
              obtain ⟨j, p', vs', hj, rfl, hrwq, hbq⟩ := hrel
              obtain ⟨pb, pd, rfl⟩ := owns_slice hrwq.row
              by_cases hjn : j < k - n
              · have hjl : n + j < rs.length := by omega
                obtain ⟨-, b2, o2, u2, e2, -, hat, hub, -⟩ := (H.out.mono hbq).at (n + j) hjl
                injection e2 with e2
                injection e2 with e2 e3
                subst e2 e3
                have hll2 := Hls.out _ (List.getElem_mem hjl)
                have hWj : W.take (j + 1) = W.take j ++ [rs[n + j]] := by
                  rw [List.take_succ_eq_append_getElem (by rw [HWl.out]; exact hjn)]
                  congr 2
                  simp [← HW.out]
                have hlj : (out ++ W.take j).length = out.length + j := by simp [HWl.out]; omega
                generalize rs[n + j] = y at *
                rw [show o1 + (n + j) * 5 = o1 + n * 5 + j * 5 by omega] at hat
                obtain ⟨ya, yc, rfl, -⟩ := id hub
                have y0 := hat.c0
                have y1 := hat.c1
                have y2 := hat.c2
                have y3 := hat.c3
                have y4 := hat.c4
                obtain ⟨wb, hwb⟩ : ∃ wb, wr.alloc (.cells #[.int .i64 y.k, .int .i64 y.b, .int .i64 y.o, .slice ya y.l.length yc, .int .i64 y.m] 48) = wb := ⟨_, rfl⟩
                have hRb : RecAt wb wr.heap.size y.k y.b y.o (.slice ya y.l.length yc) y.m := by rw [← hwb]; exact RecAt.new wr _ _ _ _ _
                have hbb : Below w.heap.size w wb := by rw [← hwb]; exact hbq.alloc (by have := hbq.size; omega) _
                have hrwb : Rw wb p' (fun j => w.heap.size ≤ j) (.slice pb (out ++ W.take j).length pd) (out ++ W.take j) vs' := by rw [← hwb]; exact hrwq.mono ((Below.refl _ _).alloc (Nat.le_refl _) _)
                have hubb : Bs wb (.slice ya y.l.length yc) y.l := by rw [← hwb]; exact hub.alloc _
                have hxl := hub.lt
                have HWj := hide hWj
                have Hlj := hide hlj
                have Hat := hide hat
                have Hub := hide hub
                have Hwb := hide hwb
                clear hWj hlj hat hub hrwq hwb
                obtain ⟨r0, r1, r2, r3, r4⟩ := hRb.held
                generalize hOW : out ++ W.take j = OW at *
                have HOW := hide hOW
                clear hOW
                go_wp2_with fail
                rw [Hwb.out]
                refine (clone_rec y.k y.b y.o y.m _ y.l wb hubb hll2).mono ?_
                rintro e w2 ⟨u, rfl, hou, hb2⟩
                obtain ⟨ca, cc, rfl⟩ := owns_slice hou
                have hrw2 := hrwb.mono hb2
                have hrowA := (Keeps.alloc (S := fun _ => False) w2 (.cells #[.int .i64 y.k, .int .i64 y.b, .int .i64 y.o, .slice ca y.l.length cc, .int .i64 y.m] 48)).owns hrw2.row (fun _ _ => id)
                have Hou := hide hou
                have Hrwb := hide hrwb
                have hol : OW.length ≤ 1000 := by have := Hlj.out; omega
                clear r0 r1 r2 r3 r4 hRb hou hrwb hrw2 hubb
                go_wp2_with (at_builtin; go_loud (refine wpList_append_own_at _ rfl (.tmp 38) (.tmp 41) 22 rfl 0 48 i0 (.agg #[.int .i64 0, .int .i64 0, .int .i64 0, .slice none 0 0, .int .i64 0]) 5 56 Try.underlying22 hi hz0 hz1 hz2 rfl (by decide) (.slice pb OW.length pd) _ _ rfl hrowA ⟨w2.heap.size, 0, none⟩ 1 1 [.int .i64 y.k, .int .i64 y.b, .int .i64 y.o, .slice ca y.l.length cc, .int .i64 y.m] rfl rfl (cell_five_new _ _ _ _ _ _ _) (by simp [Value.oneCell']) (by unfold maxLen; omega) (by omega) (by omega) ?_; intro v3 w3 hown3 hgrow3 _ hkin3))
                have hpush := Rw.push Hrwb.out hbb.size hb2 hxl Hou.out hown3 hgrow3 (by simpa using hkin3)
                have hb3 : Below w.heap.size w w3 := ((hbb.trans (hb2.mono hbb.size)).alloc (by have := hbb.size; have := hb2.size; omega) _).grown hgrow3 (by simp; have := hbb.size; have := hb2.size; omega) (fun k hk => Hrwb.out.pF k (Hrwb.out.own ▸ hk))
                have hO : OW ++ [y] = out ++ W.take (j + 1) := by rw [HWj.out, ← HOW.out, List.append_assoc]
                rw [hO] at hpush
                have Hpush := hide hpush
                clear hpush hO hown3 hrowA
                go_roundw
                case rel => exact ⟨j + 1, _, _, by omega, by go_num, Hpush.out, hb3⟩
                case measure => simp [intOf]; omega
              · obtain rfl : j = k - n := by omega
                have e := HWl.out
                have eW : W.take (k - n) = W := List.take_of_length_le (by omega)
                rw [eW] at hrwq ⊢
                clear eW
                have hl2 : (out ++ W).length ≤ k + 1 := by simp [e]; omega
                have Hrwq := hide hrwq
                have Hl2 := hide hl2
                have hRes := Hres.out
                rw [HW.out] at hRes
                have HRes := hide hRes
                clear hrwq hl2 e hRes
                go_wp2_with fail
                go_roundw
                case rel => exact ⟨k + 1, k + 1, out ++ W, p', vs', by omega, by omega, Hl2.out, by go_num, by go_num, by simpa using HRes.out, Hrwq.out, hbq⟩
                case measure => simp [intOf]; omega
          · have hres := (comm_not (rs := rs.drop (k + 1)) (out := out) (n := n) (i := k) Hok.out hk1 (by rw [Hwl.out]; omega)).symm.trans Hcm.out
            have hkb : (x.k == 1) = false := by simp [hk1]
            go_wp2_with fail
            refine bodyPost_ret (v := .tuple #[.slice pa out.length pc, .int .i64 (n : Int)]) (by simp [results, Try.results11, go_sem]) rfl ?_
            exact ⟨_, _, _, by rw [← hres], by rw [← hres]; exact hrw1, hba1⟩
    · obtain rfl : k = L := by omega
      have e := HL.out
      rw [List.drop_of_length_le (by omega)] at hcm
      have hres : (out, n) = G := by simpa [comm] using hcm
      go_wp2_with fail
      refine bodyPost_ret (v := .tuple #[.slice pa out.length pc, .int .i64 (n : Int)]) (by simp [results, Try.results11, go_sem]) rfl ?_
      exact ⟨_, _, _, by rw [← hres], by rw [← hres]; exact hrw, hbr⟩
end Go.Proofs.Ytgdlbfoihpdlhaa
