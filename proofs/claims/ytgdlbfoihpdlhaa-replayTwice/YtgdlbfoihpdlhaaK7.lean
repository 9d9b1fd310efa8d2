/- Contract: replay.Cut. -/
import Derived.Test.YtgdlbfoihpdlhaaK6
import Derived.Test.YtgdlbfoihpdlhaaL4
import Derived.WalkMore
import Derived.Deep.RegionHeld3
set_option linter.unusedSimpArgs false
set_option linter.unusedVariables false
namespace Go.Proofs.Ytgdlbfoihpdlhaa
open Go.RowKit Go.Attic

/-- Records of the call's own, and an error. -/
def NewRcE (w : World) (out : List Rc) (er : Int) (e : Ending) (w' : World) : Prop :=
  ∃ v p vs, e = .returned (.tuple #[v, .int .i64 er]) ∧ Rw w' p (fun k => w.heap.size ≤ k) v out vs ∧ Below w.heap.size w w'

/-- The same, where each record's bytes are a block of the call's own. -/
def NewRcO (w : World) (out : List Rc) (er : Int) (e : Ending) (w' : World) : Prop :=
  ∃ v p vs, e = .returned (.tuple #[v, .int .i64 er]) ∧ Rw w' p (fun k => w.heap.size ≤ k) v out vs ∧ Ow w' w.heap.size out vs ∧ Below w.heap.size w w'

theorem cutR_no {block : Int} {a b : List Nat} (h : ¬ ((0 ≤ block ∧ block < 2048) ∧ a.length = 256 ∧ b.length = 256)) : cutR block a b = ([], 1) := if_neg h
theorem cutR_yes {block : Int} {a b : List Nat} (h1 : 0 ≤ block ∧ block < 2048) (h2 : a.length = 256) (h3 : b.length = 256) : cutR block a b = (cutU block a b 6, 0) := if_pos ⟨h1, h2, h3⟩

set_option maxRecDepth 100000 in
set_option maxHeartbeats 1000000 in
theorem cut_no {w : World} {aa ba : Option Addr} {an bn ac bc : Nat} {block : Int} (h : ¬ ((0 ≤ block ∧ block < 2048) ∧ an = 256 ∧ bn = 256)) :
    Calls Try.prog 22 #[.int .i64 block, .slice aa an ac, .slice ba bn bc] w (NewRcE w [] 1) := by
  have h1 := fun w => isPage_any aa an ac w
  have h2 := fun w => isPage_any ba bn bc w
  by_cases hb0 : block < 0
  · clear h1 h2 h
    go_enter Try.func22, Try.ntmps22
    go_wp2_with fail
    go_step3
    go_wp2_with fail
    rw [Exit.noGoto_ret]
    refine bodyPost_ret (v := .tuple #[.slice none 0 0, .int .i64 1]) (by simp [results, Try.results22, go_sem]) rfl ?_
    exact ⟨_, none, [], rfl, Rw.nil _ _, Below.refl _ _⟩
  · by_cases hb1 : 2048 ≤ block
    · clear h1 h2 h
      go_enter Try.func22, Try.ntmps22
      go_wp2_with fail
      go_step3
      go_wp2_with fail
      rw [Exit.noGoto_ret]
      refine bodyPost_ret (v := .tuple #[.slice none 0 0, .int .i64 1]) (by simp [results, Try.results22, go_sem]) rfl ?_
      exact ⟨_, none, [], rfl, Rw.nil _ _, Below.refl _ _⟩
    · by_cases ha : an = 256
      · have hbn : ¬ bn = 256 := fun e => h ⟨⟨by omega, by omega⟩, ha, e⟩
        rw [decide_eq_true ha] at h1
        rw [decide_eq_false hbn] at h2
        clear h
        subst ha
        have hb0' : 0 ≤ block := by omega
        go_enter Try.func22, Try.ntmps22
        go_wp2_with fail
        go_step3
        go_wp2_with fail
        refine (h1 _).mono ?_
        rintro e w' ⟨rfl, rfl⟩
        go_wp2_with fail
        refine (h2 _).mono ?_
        rintro e w' ⟨rfl, rfl⟩
        go_wp2_with fail
        rw [Exit.noGoto_ret]
        refine bodyPost_ret (v := .tuple #[.slice none 0 0, .int .i64 1]) (by simp [results, Try.results22, go_sem]) rfl ?_
        exact ⟨_, none, [], rfl, Rw.nil _ _, Below.refl _ _⟩
      · rw [decide_eq_false ha] at h1
        clear h h2
        have hb0' : 0 ≤ block := by omega
        go_enter Try.func22, Try.ntmps22
        go_wp2_with fail
        go_step3
        go_wp2_with fail
        refine (h1 _).mono ?_
        rintro e w' ⟨rfl, rfl⟩
        go_wp2_with fail
        rw [Exit.noGoto_ret]
        refine bodyPost_ret (v := .tuple #[.slice none 0 0, .int .i64 1]) (by simp [results, Try.results22, go_sem]) rfl ?_
        exact ⟨_, none, [], rfl, Rw.nil _ _, Below.refl _ _⟩

set_option maxRecDepth 100000 in
set_option maxHeartbeats 2000000 in
theorem cut_own {w : World} {aa ba : Option Addr} {ac bc : Nat} {block : Int} {A B : List Nat} (hblock : 0 ≤ block ∧ block < 2048) (hA : Bs w (.slice aa 256 ac) A) (hB : Bs w (.slice ba 256 bc) B) :
    Calls Try.prog 22 #[.int .i64 block, .slice aa 256 ac, .slice ba 256 bc] w (NewRcO w (cutU block A B 6) 0) := by
  obtain ⟨i0, hi, hz0, hz1, hz2⟩ := info_parts Try.info48
  have h1 := fun w => isPage_any aa 256 ac w
  have h2 := fun w => isPage_any ba 256 bc w
  rw [decide_eq_true rfl] at h1 h2
  obtain ⟨hb0, hb1⟩ := hblock
  have hd0 : decide (block < 0) = false := decide_eq_false (by omega)
  have hd1 : decide (2048 ≤ block) = false := decide_eq_false (by omega)
  have HA := hide hA
  have HB := hide hB
  clear hA hB
  go_enter Try.func22, Try.ntmps22
  go_wp2_with fail
  go_step3
  go_wp2_with fail
  refine (h1 _).mono ?_
  rintro e w' ⟨rfl, rfl⟩
  go_wp2_with fail
  refine (h2 _).mono ?_
  rintro e w' ⟨rfl, rfl⟩
  clear h1 h2
  go_wp2_with fail
  go_step3
  go_wp2_with fail
  go_loopw [8, 31] (fun pv jv wr => ∃ (j : Nat) (p : Option Nat) (vs : List Value), j ≤ 6 ∧ jv = .int .i64 (j : Int) ∧ Rw wr p (fun k => w.heap.size ≤ k) pv (cutU block A B j) vs ∧ Ow wr w.heap.size (cutU block A B j) vs ∧ Below w.heap.size w wr) (fun _ jv _ => 6 - (intOf jv).toNat)
  case atStart => exact ⟨0, none, [], Nat.zero_le _, rfl, Rw.nil _ _, Ow.nil _ _, Below.refl _ _⟩
  case round =>
    obtain ⟨j, p, vs, hj, rfl, hrw, how, hbr⟩ := hrel
    have How := hide how
    clear how
    obtain ⟨pa, pc, rfl⟩ := owns_slice hrw.row
    by_cases hj6 : j < 6
    · obtain ⟨t, ht⟩ : ∃ t, toN j = t := ⟨_, rfl⟩
      have ht1 : 44 * j < t ∧ t ≤ 256 ∧ t ≤ 44 * j + 44 := by rw [← ht]; unfold toN; omega
      obtain ⟨f0, hf0⟩ : ∃ f0, 44 * j = f0 := ⟨_, rfl⟩
      rw [hf0] at ht1
      have hmul : IntKind.i64.wrap ((j : Int) * 44) = (f0 : Int) := by rw [show ((j : Int) * 44) = (f0 : Int) by omega]; exact wrap_small _ (by omega) (by omega)
      have hmin : (if (256 : Int) < (f0 : Int) + 44 then (256 : Int) else (f0 : Int) + 44) = (t : Int) := by
        rw [← ht, ← hf0]; unfold toN
        by_cases h : 44 * j + 44 ≤ 256
        · rw [if_neg (by omega)]; omega
        · rw [if_pos (by omega)]; omega
      have hsub : (t : Int) - (f0 : Int) = ((t - f0 : Nat) : Int) := by omega
      have Ht := hide ht
      have Hf0 := hide hf0
      have Hrw := hide hrw
      clear ht hf0 hrw
      go_wp2_with fail
      go_loopw [8, 42] (fun pv iv wq => ∃ i : Nat, i ≤ t - f0 ∧ pv = .slice pa (cutU block A B j).length pc ∧ iv = .int .i64 (i : Int) ∧ (∀ x, f0 ≤ x → x < f0 + i → dif A B x = false) ∧ Below wr.heap.size wr wq) (fun _ iv _ => (t - f0) - (intOf iv).toNat)
      case atStart => exact ⟨0, Nat.zero_le _, rfl, rfl, fun x h1 h2 => by omega, Below.refl _ _⟩
      case round =>
        obtain ⟨i, hi', rfl, rfl, hdif, hbq⟩ := hrel
        have hbw := hbr.trans (hbq.mono hbr.size)
        have Hdif := hide hdif
        clear hdif
        by_cases hit : i < t - f0
        · have hAl := HA.out.len
          have hBl := HB.out.len
          obtain ⟨q, hq⟩ : ∃ q, f0 + i = q := ⟨_, rfl⟩
          have hqi : (f0 : Int) + (i : Int) = (q : Int) := by omega
          have hA' := HA.out.mono hbw
          have hB' := HB.out.mono hbw
          obtain ⟨b1, o1, rfl, hc1⟩ := bs_at hA' q (by omega)
          obtain ⟨b2, o2, rfl, hc2⟩ := bs_at hB' q (by omega)
          have hd : dif A B q = decide (A.getD q 0 ≠ B.getD q 0) := rfl
          have hq0 : (0 : Int) ≤ (q : Int) := by omega
          have hq1 : (q : Int) < 256 := by omega
          have HA' := hide hA'
          have HB' := hide hB'
          have Hq := hide hq
          clear hA' hB' hq hAl hBl
          generalize A.getD q 0 = x at *
          generalize B.getD q 0 = y at *
          by_cases hxy : x = y
          · subst hxy
            have hd2 : dif A B q = false := by rw [hd]; simp
            have hdn : ∀ x, f0 ≤ x → x < f0 + (i + 1) → dif A B x = false := fun z h1 h2 => by
              by_cases e : z = q
              · rw [e]; exact hd2
              · exact Hdif.out z h1 (by have := Hq.out; omega)
            have Hdn := hide hdn
            clear hd hd2 hdn
            go_wp2_with fail
            go_quiet (fail)
            go_wp2_with fail
            go_roundw
            case rel => exact ⟨i + 1, by omega, rfl, by go_num, Hdn.out, below_drewN hbq _⟩
            case measure => simp [intOf]; omega
          · have hxy2 : ((x : Int) == (y : Int)) = false := by simp; omega
            have hd2 : dif A B q = true := by rw [hd]; simp [hxy]
            have hfn : firstN A B (44 * j) (toN j - 44 * j) = some q := by
              rw [Ht.out, Hf0.out]
              exact firstN_some (by have := Hq.out; omega) (by have := Hq.out; omega) hd2 (fun z h1 h2 => Hdif.out z h1 (by have := Hq.out; omega))
            obtain ⟨e, he⟩ : ∃ e, lastE A B t = e := ⟨_, rfl⟩
            have hpc : piece A B j = some (q, e) := by unfold piece; rw [hfn, Ht.out, he]; rfl
            have hqe : q < e ∧ e ≤ t := by
              obtain ⟨g1, _, g3⟩ := lastE_is A B t
              rw [he] at g1 g3
              refine ⟨Nat.lt_of_not_le fun h => ?_, g1⟩
              rw [g3 q h (by have := Hq.out; omega)] at hd2
              cases hd2
            have hcu := cutU_some (block := block) hpc
            have Hcu := hide hcu
            have He := hide he
            clear hd hd2 hfn hpc hcu he
            go_wp2_with fail
            go_quiet (fail)
            go_wp2_with fail
            obtain ⟨W, hW⟩ : ∃ W, wr.drewN nq = W := ⟨_, rfl⟩
            have hbW : Below wr.heap.size wr W := by rw [← hW]; exact below_drewN (Below.refl _ _) _
            rw [hW]
            clear hW
            have hAW : Bs W.drew (.slice (some ⟨b1, o1, none⟩) 256 ac) A := (HA'.out.mono hbW).drew
            have hBW : Bs W.drew (.slice (some ⟨b2, o2, none⟩) 256 bc) B := (HB'.out.mono hbW).drew
            have hAl := hAW.len
            have hBl := hBW.len
            have hbc := hBW.cap
            have hac := hAW.cap
            rw [← hBl] at hbc
            rw [← hAl] at hac
            have hbq1 : ¬ bc = q := by omega
            have hun := unlike_any (n := t) (ac := ac) (bc := bc) (hAW.take (h := t) (by omega)) (hBW.take (h := t) (by omega)) (by omega)
            rw [lastE_take _ _ _ _ (Nat.le_refl _), He.out] at hun
            have hcl : ∀ w5, Below W.drew.heap.size W.drew w5 → Calls Try.prog 18 #[.slice (some ⟨b2, o2 + q, none⟩) (e - q) (bc - q)] w5 (NewBs w5 ((B.take e).drop q)) := by
              intro w5 h5
              have h6 := ((hBW.mono h5).take (h := e) (by omega)).drop (lo := q) (by simp; omega)
              rw [if_neg hbq1, Option.map_some, Addr.add_lit] at h6
              have e6 : (B.take e).length - q = e - q := by simp; omega
              rw [e6] at h6
              exact clone_any _ _ _ h6 (by simp; omega)
            have Hcl := hide hcl
            have Hun := hide hun
            have HbW := hide hbW
            have hqe0 : (q : Int) ≤ (e : Int) := by omega
            have hte0 : (t : Int) ≤ 256 := by omega
            have htac : (t : Int) ≤ (ac : Int) := by omega
            have htbc : (t : Int) ≤ (bc : Int) := by omega
            have hebc : (e : Int) ≤ (bc : Int) := by omega
            clear hAW hBW hcl hun hbW hc1 hc2 hAl hBl
            go_region_held3 (fun _ => True) (trivial) (first
              | (go_at_call 38; refine Hun.out.mono ?_; rintro r w5 ⟨rfl, hb5⟩)
              | (go_at_call 18; refine (Hcl.out w5 hb5).mono ?_; rintro r w6 ⟨u, rfl, hou, hb6⟩))
            rename_i hHeld
            clear hHeld
            obtain ⟨ca, cc, rfl⟩ := owns_slice hou
            have hW6 : Below wr.heap.size wr w6 := HbW.out.trans (((below_drewN (Below.refl _ W) 1).trans (hb5.trans (hb6.mono hb5.size))).mono (HbW.out.size))
            have hw6 : Below w.heap.size w w6 := hbw.trans (hW6.mono hbw.size)
            have hz5 : wr.heap.size ≤ w5.heap.size := Nat.le_trans HbW.out.size hb5.size
            have hrwW := Hrw.out.mono (hbq.trans (((HbW.out.trans ((below_drewN (Below.refl _ W) 1).mono HbW.out.size)).trans (hb5.mono HbW.out.size)).mono hbq.size))
            have howW := How.out.mono (hbq.trans (((HbW.out.trans ((below_drewN (Below.refl _ W) 1).mono HbW.out.size)).trans (hb5.mono HbW.out.size)).mono hbq.size))
            have HowW := hide howW
            clear howW
            have hrw6 := hrwW.mono hb6
            have hrowA := (Keeps.alloc (S := fun _ => False) w6 (.cells #[.int .i64 1, .int .i64 block, .int .i64 (q : Int), .slice ca ((B.take e).drop q).length cc, .int .i64 0] 48)).owns hrw6.row (fun _ _ => id)
            have hdl : ((B.take e).drop q).length ≤ 256 := by simp; omega
            have hdl2 : ((B.take e).drop q).length = e - q := by have := HB.out.len; simp; omega
            have Hdl := hide hdl2
            clear hdl2
            have hxl : ∀ z ∈ (cutP block B (q, e)).l, z < 256 := fun z hz => HB.out.lt z (List.mem_of_mem_take (List.mem_of_mem_drop hz))
            have hol : (cutU block A B j).length ≤ 6 := Nat.le_trans (cutU_len block A B j) (by omega)
            have Hou := hide hou
            have HrwW := hide hrwW
            have Hxl := hide hxl
            clear hou hrwW hrw6 hxl
            generalize hd3 : (B.take e).drop q = D at *
            have Hd3 := hide hd3
            clear hd3
            go_wp2_with (at_builtin; refine wpList_append_own_at _ rfl (.tmp 68) (.tmp 73) 22 rfl 0 48 i0 (.agg #[.int .i64 0, .int .i64 0, .int .i64 0, .slice none 0 0, .int .i64 0]) 5 56 Try.underlying22 hi hz0 hz1 hz2 rfl (by decide) (.slice pa (cutU block A B j).length pc) _ _ rfl hrowA ⟨w6.heap.size, 0, none⟩ 1 1 [.int .i64 1, .int .i64 block, .int .i64 (q : Int), .slice ca D.length cc, .int .i64 0] rfl rfl (cell_five_new _ _ _ _ _ _ _) (by simp [Value.oneCell']) (by unfold maxLen; omega) (by omega) (by omega) ?_; intro v3 w3 hown3 hgrow3 _ hkin3)
            have hpush := Rw.push (r := cutP block B (q, e)) HrwW.out (by have := hbr.size; have := hbq.size; omega) hb6 Hxl.out (by show w6.ownsRow _ 5 1 _ ((B.take e).drop q).length (cellsB ((B.take e).drop q)); rw [Hd3.out]; exact Hou.out) hown3 hgrow3 (by simpa using hkin3)
            have hb3 : Below w.heap.size w w3 := (hw6.alloc hw6.size _).grown hgrow3 (by simp; have := hw6.size; omega) (fun k hk => HrwW.out.pF k (HrwW.out.own ▸ hk))
            have hopush := Ow.push (r := cutP block B (q, e)) HowW.out HrwW.out (by have := hbr.size; have := hbq.size; omega) hb6 (by have := Hdl.out; show 0 < ((B.take e).drop q).length; rw [Hd3.out]; omega) (by show w6.ownsRow _ 5 1 _ ((B.take e).drop q).length (cellsB ((B.take e).drop q)); rw [Hd3.out]; exact Hou.out) hgrow3
            rw [← Hcu.out] at hpush hopush
            exact ⟨⟨j + 1, _, _, by omega, by go_num, hpush, hopush, hb3⟩, by simp [intOf]; omega⟩
        · have hi2 : i = t - f0 := by omega
          have hpn : piece A B j = none := by
            unfold piece
            rw [Ht.out, Hf0.out, firstN_none (fun x h1 h2 => Hdif.out x h1 (by omega))]
            rfl
          have hcu := cutU_none (block := block) hpn
          have Hcu := hide hcu
          have hrwq := Hrw.out.mono hbq
          have Hrwq := hide hrwq
          have Howq := hide (How.out.mono hbq)
          clear hcu hpn hrwq hi2
          go_wp2_with fail
          go_roundw
          case rel => exact ⟨j + 1, p, vs, by omega, by go_num, by rw [Hcu.out]; exact Hrwq.out, by rw [Hcu.out]; exact Howq.out, hbw⟩
          case measure => simp [intOf]; omega
    · obtain rfl : j = 6 := by omega
      have Hrw := hide hrw
      clear hrw
      go_wp2_with fail
      rw [Exit.noGoto_ret]
      refine bodyPost_ret (v := .tuple #[.slice pa (cutU block A B 6).length pc, .int .i64 0]) (by simp [results, Try.results22, go_sem]) rfl ?_
      exact ⟨_, p, vs, rfl, Hrw.out, How.out, hbr⟩

theorem cut_yes {w : World} {aa ba : Option Addr} {ac bc : Nat} {block : Int} {A B : List Nat} (hblock : 0 ≤ block ∧ block < 2048) (hA : Bs w (.slice aa 256 ac) A) (hB : Bs w (.slice ba 256 bc) B) :
    Calls Try.prog 22 #[.int .i64 block, .slice aa 256 ac, .slice ba 256 bc] w (NewRcE w (cutU block A B 6) 0) :=
  (cut_own hblock hA hB).mono fun e w' ⟨v, p, vs, h1, h2, _, h3⟩ => ⟨v, p, vs, h1, h2, h3⟩
theorem cut_any {w : World} {va vb : Value} {block : Int} {A B : List Nat} (hA : Bs w va A) (hB : Bs w vb B) : Calls Try.prog 22 #[.int .i64 block, va, vb] w (NewRcO w (cutR block A B).1 (cutR block A B).2) := by
  obtain ⟨aa, ac, rfl, -⟩ := id hA
  obtain ⟨ba, bc, rfl, -⟩ := id hB
  by_cases h : (0 ≤ block ∧ block < 2048) ∧ A.length = 256 ∧ B.length = 256
  · rw [cutR_yes h.1 h.2.1 h.2.2]
    rw [h.2.1] at hA ⊢
    rw [h.2.2] at hB ⊢
    exact cut_own h.1 hA hB
  · rw [cutR_no h]
    refine (cut_no h).mono fun e w' ⟨v, p, vs, h1, h2, h3⟩ => ⟨v, p, vs, h1, h2, ?_, h3⟩
    have hl := h2.len
    obtain rfl : vs = [] := List.eq_nil_of_length_eq_zero (by simpa using hl)
    exact Ow.nil _ _

end Go.Proofs.Ytgdlbfoihpdlhaa
