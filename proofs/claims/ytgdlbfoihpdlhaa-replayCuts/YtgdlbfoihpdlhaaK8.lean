/- Contract: the document's Cut. -/
import Derived.Test.YtgdlbfoihpdlhaaK7
set_option linter.unusedSimpArgs false
set_option linter.unusedVariables false
namespace Go.Proofs.Ytgdlbfoihpdlhaa
open Go.RowKit Go.Attic

set_option maxRecDepth 100000 in
set_option maxHeartbeats 1000000 in
theorem rcut_no {w : World} {aa ba : Option Addr} {an bn ac bc : Nat} {block : Int} (h : ¬ ((0 ≤ block ∧ block < 2048) ∧ an = 256 ∧ bn = 256)) :
    Calls Try.prog 23 #[.int .i64 block, .slice aa an ac, .slice ba bn bc] w (NewRcE w [] 1) := by
  by_cases hb0 : block < 0
  · clear h
    go_enter Try.func23, Try.ntmps23
    go_wp2_with fail
    refine bodyPost_ret (v := .tuple #[.slice none 0 0, .int .i64 1]) (by simp [results, Try.results23, go_sem]) rfl ?_
    exact ⟨_, none, [], rfl, Rw.nil _ _, Below.refl _ _⟩
  · by_cases hb1 : 2048 ≤ block
    · clear h
      go_enter Try.func23, Try.ntmps23
      go_wp2_with fail
      refine bodyPost_ret (v := .tuple #[.slice none 0 0, .int .i64 1]) (by simp [results, Try.results23, go_sem]) rfl ?_
      exact ⟨_, none, [], rfl, Rw.nil _ _, Below.refl _ _⟩
    · by_cases ha : an = 256
      · have hbn : ¬ bn = 256 := fun e => h ⟨⟨by omega, by omega⟩, ha, e⟩
        clear h
        subst ha
        have hb0' : 0 ≤ block := by omega
        have hbb : ((bn : Int) == 256) = false := by simp; omega
        go_enter Try.func23, Try.ntmps23
        go_wp2_with fail
        refine bodyPost_ret (v := .tuple #[.slice none 0 0, .int .i64 1]) (by simp [results, Try.results23, go_sem]) rfl ?_
        exact ⟨_, none, [], rfl, Rw.nil _ _, Below.refl _ _⟩
      · clear h
        have hb0' : 0 ≤ block := by omega
        have hbb : ((an : Int) == 256) = false := by simp; omega
        go_enter Try.func23, Try.ntmps23
        go_wp2_with fail
        refine bodyPost_ret (v := .tuple #[.slice none 0 0, .int .i64 1]) (by simp [results, Try.results23, go_sem]) rfl ?_
        exact ⟨_, none, [], rfl, Rw.nil _ _, Below.refl _ _⟩

/-- What the document's Cut has seen of a piece: its first unlike byte and its last one, up to i. -/
def Seen (A B : List Nat) (f0 i : Nat) (fi la : Int) : Prop :=
  (fi = -1 ∧ la = -1 ∧ ∀ x, f0 ≤ x → x < i → dif A B x = false) ∨
  ∃ q l : Nat, fi = q ∧ la = l ∧ f0 ≤ q ∧ q ≤ l ∧ l < i ∧ dif A B q = true ∧ dif A B l = true ∧ (∀ x, f0 ≤ x → x < q → dif A B x = false) ∧ ∀ x, l < x → x < i → dif A B x = false

theorem Seen.same {A B : List Nat} {f0 i : Nat} {fi la : Int} (h : Seen A B f0 i fi la) (hd : dif A B i = false) : Seen A B f0 (i + 1) fi la := by
  rcases h with ⟨h1, h2, h3⟩ | ⟨q, l, h1, h2, h3, h4, h5, h6, h7, h8, h9⟩
  · refine .inl ⟨h1, h2, fun x a b => ?_⟩
    by_cases e : x = i
    · rw [e]; exact hd
    · exact h3 x a (by omega)
  · refine .inr ⟨q, l, h1, h2, h3, h4, by omega, h6, h7, h8, fun x a b => ?_⟩
    by_cases e : x = i
    · rw [e]; exact hd
    · exact h9 x a (by omega)
theorem Seen.first {A B : List Nat} {f0 i : Nat} {la : Int} (h : Seen A B f0 i (-1) la) (hi : f0 ≤ i) (hd : dif A B i = true) : Seen A B f0 (i + 1) (i : Int) (i : Int) := by
  rcases h with ⟨h1, h2, h3⟩ | ⟨q, l, h1, h2, h3, h4, h5, h6, h7, h8, h9⟩
  · exact .inr ⟨i, i, rfl, rfl, hi, Nat.le_refl _, by omega, hd, hd, h3, fun x a b => by omega⟩
  · omega
theorem Seen.next {A B : List Nat} {f0 i : Nat} {fi la : Int} (h : Seen A B f0 i fi la) (hf : 0 ≤ fi) (hd : dif A B i = true) : Seen A B f0 (i + 1) fi (i : Int) := by
  rcases h with ⟨h1, h2, h3⟩ | ⟨q, l, h1, h2, h3, h4, h5, h6, h7, h8, h9⟩
  · omega
  · exact .inr ⟨q, i, h1, rfl, h3, by omega, by omega, h6, hd, h8, fun x a b => by omega⟩

set_option maxRecDepth 100000 in
set_option maxHeartbeats 2000000 in
theorem rcut_yes {w : World} {aa ba : Option Addr} {ac bc : Nat} {block : Int} {A B : List Nat} (hblock : 0 ≤ block ∧ block < 2048) (hA : Bs w (.slice aa 256 ac) A) (hB : Bs w (.slice ba 256 bc) B) :
    Calls Try.prog 23 #[.int .i64 block, .slice aa 256 ac, .slice ba 256 bc] w (NewRcE w (cutU block A B 6) 0) := by
  obtain ⟨i0, hi, hz0, hz1, hz2⟩ := info_parts Try.info48
  obtain ⟨j0, hj0, hy0, hy1, hy2⟩ := info_parts Try.info5
  obtain ⟨hb0, hb1⟩ := hblock
  have hd0 : decide (block < 0) = false := decide_eq_false (by omega)
  have hd1 : decide (2048 ≤ block) = false := decide_eq_false (by omega)
  have HA := hide hA
  have HB := hide hB
  clear hA hB
  go_enter Try.func23, Try.ntmps23
  go_wp2_with fail
  go_loopw [8, 9] (fun pv fv wr => ∃ (j : Nat) (p : Option Nat) (vs : List Value), j ≤ 6 ∧ fv = .int .i64 ((44 * j : Nat) : Int) ∧ Rw wr p (fun k => w.heap.size ≤ k) pv (cutU block A B j) vs ∧ Below w.heap.size w wr) (fun _ fv _ => 300 - (intOf fv).toNat)
  case atStart => exact ⟨0, none, [], Nat.zero_le _, rfl, Rw.nil _ _, Below.refl _ _⟩
  case round =>
    obtain ⟨j, p, vs, hj, rfl, hrw, hbr⟩ := hrel
    obtain ⟨pa, pc, rfl⟩ := owns_slice hrw.row
    obtain ⟨f0, hf0⟩ : ∃ f0, 44 * j = f0 := ⟨_, rfl⟩
    rw [hf0]
    by_cases hj6 : j < 6
    · obtain ⟨t, ht⟩ : ∃ t, toN j = t := ⟨_, rfl⟩
      have ht1 : f0 < t ∧ t ≤ 256 ∧ t ≤ f0 + 44 ∧ (t = f0 + 44 ∨ t = 256) ∧ f0 < 256 := by rw [← ht, ← hf0]; unfold toN; omega
      have Ht := hide ht
      have Hf0 := hide hf0
      have Hrw := hide hrw
      clear ht hf0 hrw
      have hf256 : (f0 : Int) < 256 := by omega
      go_wp2_with fail
      go_loopw [10, 11, 12] (fun fv lv iv wq => ∃ (i : Nat) (fi la : Int), f0 ≤ i ∧ i ≤ t ∧ fv = .int .i64 fi ∧ lv = .int .i64 la ∧ iv = .int .i64 (i : Int) ∧ Seen A B f0 i fi la ∧ Below wr.heap.size wr wq) (fun _ _ iv _ => t - (intOf iv).toNat)
      case atStart => exact ⟨f0, -1, -1, Nat.le_refl _, by omega, rfl, rfl, rfl, .inl ⟨rfl, rfl, fun x a b => by omega⟩, Below.refl _ _⟩
      case round =>
        obtain ⟨i, fi, la, hif, hit', rfl, rfl, rfl, hseen, hbq⟩ := hrel
        have hbw := hbr.trans (hbq.mono hbr.size)
        by_cases hit : i < t
        · have hAl := HA.out.len
          have hBl := HB.out.len
          have hA' := HA.out.mono hbw
          have hB' := HB.out.mono hbw
          obtain ⟨b1, o1, rfl, hc1⟩ := bs_at hA' i (by omega)
          obtain ⟨b2, o2, rfl, hc2⟩ := bs_at hB' i (by omega)
          have hd : dif A B i = decide (A.getD i 0 ≠ B.getD i 0) := rfl
          have hq0 : (0 : Int) ≤ (i : Int) := by omega
          have hq1 : (i : Int) < 256 := by omega
          have hq2 : (i : Int) < (f0 : Int) + 44 := by omega
          have Hseen := hide hseen
          clear hA' hB' hAl hBl hseen
          generalize A.getD i 0 = x at *
          generalize B.getD i 0 = y at *
          by_cases hxy : x = y
          · subst hxy
            have hd2 : dif A B i = false := by rw [hd]; simp
            have Hs2 := hide (Hseen.out.same hd2)
            clear hd hd2
            go_wp2_with fail
            go_quiet (fail)
            go_wp2_with fail
            go_roundw
            case rel => exact ⟨i + 1, fi, la, by omega, by omega, rfl, rfl, by go_num, Hs2.out, below_drewN hbq _⟩
            case measure => simp [intOf]; omega
          · have hxy2 : ((x : Int) == (y : Int)) = false := by simp; omega
            have hd2 : dif A B i = true := by rw [hd]; simp [hxy]
            by_cases hfi : 0 ≤ fi
            · have Hs2 := hide (Hseen.out.next hfi hd2)
              clear hd hd2
              go_wp2_with fail
              go_quiet (fail)
              go_wp2_with fail
              go_roundw
              case rel => exact ⟨i + 1, fi, i, by omega, by omega, rfl, rfl, by go_num, Hs2.out, below_drewN hbq _⟩
              case measure => simp [intOf]; omega
            · have hfi1 : fi = -1 := by
                rcases Hseen.out with ⟨h1, _⟩ | ⟨q, l, h1, _⟩
                · exact h1
                · omega
              subst hfi1
              have Hs2 := hide (Hseen.out.first hif hd2)
              clear hd hd2
              go_wp2_with fail
              go_quiet (fail)
              go_wp2_with fail
              go_roundw
              case rel => exact ⟨i + 1, i, i, by omega, by omega, rfl, rfl, by go_num, Hs2.out, below_drewN hbq _⟩
              case measure => simp [intOf]; omega
        · have hi2 : i = t := by omega
          rcases hseen with ⟨rfl, rfl, h3⟩ | ⟨q, l, rfl, rfl, h3, h4, h5, h6, h7, h8, h9⟩
          · have hpn : piece A B j = none := by
              unfold piece
              rw [Ht.out, Hf0.out, firstN_none (fun x h1 h2 => h3 x h1 (by omega))]
              rfl
            have Hcu := hide (cutU_none (block := block) hpn)
            have Hrwq := hide (Hrw.out.mono hbq)
            clear hpn h3
            rcases ht1.2.2.2.1 with ht2 | ht2
            · have hq2 : ¬ (i : Int) < (f0 : Int) + 44 := by omega
              go_wp2_with fail
              go_roundw
              case rel => exact ⟨j + 1, p, vs, by omega, by rw [show 44 * (j + 1) = f0 + 44 by have := Hf0.out; omega]; go_num, by rw [Hcu.out]; exact Hrwq.out, hbw⟩
              case measure => simp [intOf]; omega
            · have hq1 : ¬ (i : Int) < 256 := by omega
              go_wp2_with fail
              all_goals
                go_roundw
                case rel => exact ⟨j + 1, p, vs, by omega, by rw [show 44 * (j + 1) = f0 + 44 by have := Hf0.out; omega]; go_num, by rw [Hcu.out]; exact Hrwq.out, hbw⟩
                case measure => simp [intOf]; omega
          · have hfn : firstN A B (44 * j) (toN j - 44 * j) = some q := by
              rw [Ht.out, Hf0.out]
              exact firstN_some h3 (by omega) h6 h8
            have hla : lastE A B t = l + 1 := lastE_of (by omega) h7 (fun x a b => h9 x a (by omega))
            have hpc : piece A B j = some (q, l + 1) := by unfold piece; rw [hfn, Ht.out, hla]; rfl
            have Hcu := hide (cutU_some (block := block) hpc)
            have hBq := HB.out.mono hbw
            have hBl := hBq.len
            have hbc := hBq.cap
            rw [← hBl] at hbc
            have hbq1 : ¬ bc = q := by omega
            obtain ⟨b2, o2, rfl, -⟩ := bs_at hBq q (by omega)
            have hdl : ((B.take (l + 1)).drop q).length = l + 1 - q := by simp; omega
            have h10 := (hBq.take (h := l + 1) (by omega)).drop (lo := q) (by simp; omega)
            rw [if_neg hbq1, Option.map_some, Addr.add_lit] at h10
            rw [show (B.take (l + 1)).length - q = l + 1 - q by simp; omega] at h10
            have hxl : ∀ z ∈ (cutP block B (q, l + 1)).l, z < 256 := fun z hz => HB.out.lt z (List.mem_of_mem_take (List.mem_of_mem_drop hz))
            have Hxl := hide hxl
            have hrwq := Hrw.out.mono hbq
            have Hrwq := hide hrwq
            have hol : (cutU block A B j).length ≤ 6 := Nat.le_trans (cutU_len block A B j) (by omega)
            have hq0 : (0 : Int) ≤ (q : Int) := by omega
            have hl1 : (q : Int) ≤ (l : Int) + 1 := by omega
            have hl2 : (l : Int) + 1 ≤ 256 := by omega
            have hl3 : (l : Int) + 1 ≤ (bc : Int) := by omega
            have hbwz := hbw.size
            clear hfn hla hpc hxl hrwq h3 h6 h7 h8 h9 hBq hBl hbc
            generalize hd3 : (B.take (l + 1)).drop q = D at *
            have Hd3 := hide hd3
            have Hdl := hide hdl
            clear hd3 hdl
            have hDl : D.length ≤ 256 := by have := Hdl.out; omega
            rcases ht1.2.2.2.1 with ht2 | ht2
            · have hq2 : ¬ (i : Int) < (f0 : Int) + 44 := by omega
              go_wp2_with (first
                | (at_builtin; refine wpList_append_bs _ rfl (.const (.slice none 0 0)) (.tmp 66) 37 rfl wr.heap.size 5 j0 (.int .u8 0) Try.underlying37 hj0 hy0 hy1 hy2 rfl _ 0 [] rfl (World.ownsRow_nil _ _ _ _) _ D rfl h10 (by omega) (Nat.le_refl _) ?_
                   intro u w6 hou hg6
                   rw [Nat.zero_add, List.nil_append] at hou
                   have hb6 : Below wr.heap.size wr w6 := (Below.refl _ _).grown hg6 (Nat.le_refl _) (by intro k hk; cases hk)
                   obtain ⟨ca, cc, rfl⟩ := owns_slice hou
                   have hrow6 := (Hrwq.out.mono hb6).row
                   have hrowA := (Keeps.alloc (S := fun _ => False) w6 (.cells #[.int .i64 1, .int .i64 block, .int .i64 (q : Int), .slice ca D.length cc, .int .i64 0] 48)).owns hrow6 (fun _ _ => id)
                   have hw6 := hbw.trans (hb6.mono hbw.size)
                   have Hou := hide hou
                   clear hou hg6 hrow6)
                | (at_builtin; refine wpList_append_own_at _ rfl (.tmp 59) (.tmp 69) 22 rfl 0 48 i0 (.agg #[.int .i64 0, .int .i64 0, .int .i64 0, .slice none 0 0, .int .i64 0]) 5 56 Try.underlying22 hi hz0 hz1 hz2 rfl (by decide) (.slice pa (cutU block A B j).length pc) _ _ rfl hrowA ⟨w6.heap.size, 0, none⟩ 1 1 [.int .i64 1, .int .i64 block, .int .i64 (q : Int), .slice ca D.length cc, .int .i64 0] rfl rfl (cell_five_new _ _ _ _ _ _ _) (by simp [Value.oneCell']) (by unfold maxLen; omega) (by omega) (by omega) ?_; intro v3 w3 hown3 hgrow3 _ hkin3))
              have hpush := Rw.push (r := cutP block B (q, l + 1)) Hrwq.out hbwz hb6 Hxl.out (by show w6.ownsRow _ 5 1 _ ((B.take (l + 1)).drop q).length (cellsB ((B.take (l + 1)).drop q)); rw [Hd3.out]; exact Hou.out) hown3 hgrow3 (by simpa using hkin3)
              have hb3 : Below w.heap.size w w3 := (hw6.alloc hw6.size _).grown hgrow3 (by simp; have := hw6.size; omega) (fun k hk => Hrwq.out.pF k (Hrwq.out.own ▸ hk))
              rw [← Hcu.out] at hpush
              have Hpush := hide hpush
              clear hpush hown3 hgrow3 hkin3 hrowA
              go_roundw
              case rel => exact ⟨j + 1, _, _, by omega, by rw [show 44 * (j + 1) = f0 + 44 by have := Hf0.out; omega]; go_num, Hpush.out, hb3⟩
              case measure => simp [intOf]; omega
            · have hq1 : ¬ (i : Int) < 256 := by omega
              have hq3 : (256 : Int) < (f0 : Int) + 44 ∨ ¬ (256 : Int) < (f0 : Int) + 44 := Classical.em _
              clear hq1
              rcases hq3 with hq2 | hq2
              all_goals
                go_wp2_with (first
                  | (at_builtin; refine wpList_append_bs _ rfl (.const (.slice none 0 0)) (.tmp 66) 37 rfl wr.heap.size 5 j0 (.int .u8 0) Try.underlying37 hj0 hy0 hy1 hy2 rfl _ 0 [] rfl (World.ownsRow_nil _ _ _ _) _ D rfl h10 (by omega) (Nat.le_refl _) ?_
                     intro u w6 hou hg6
                     rw [Nat.zero_add, List.nil_append] at hou
                     have hb6 : Below wr.heap.size wr w6 := (Below.refl _ _).grown hg6 (Nat.le_refl _) (by intro k hk; cases hk)
                     obtain ⟨ca, cc, rfl⟩ := owns_slice hou
                     have hrow6 := (Hrwq.out.mono hb6).row
                     have hrowA := (Keeps.alloc (S := fun _ => False) w6 (.cells #[.int .i64 1, .int .i64 block, .int .i64 (q : Int), .slice ca D.length cc, .int .i64 0] 48)).owns hrow6 (fun _ _ => id)
                     have hw6 := hbw.trans (hb6.mono hbw.size)
                     have Hou := hide hou
                     clear hou hg6 hrow6)
                  | (at_builtin; refine wpList_append_own_at _ rfl (.tmp 59) (.tmp 69) 22 rfl 0 48 i0 (.agg #[.int .i64 0, .int .i64 0, .int .i64 0, .slice none 0 0, .int .i64 0]) 5 56 Try.underlying22 hi hz0 hz1 hz2 rfl (by decide) (.slice pa (cutU block A B j).length pc) _ _ rfl hrowA ⟨w6.heap.size, 0, none⟩ 1 1 [.int .i64 1, .int .i64 block, .int .i64 (q : Int), .slice ca D.length cc, .int .i64 0] rfl rfl (cell_five_new _ _ _ _ _ _ _) (by simp [Value.oneCell']) (by unfold maxLen; omega) (by omega) (by omega) ?_; intro v3 w3 hown3 hgrow3 _ hkin3))
                have hpush := Rw.push (r := cutP block B (q, l + 1)) Hrwq.out hbwz hb6 Hxl.out (by show w6.ownsRow _ 5 1 _ ((B.take (l + 1)).drop q).length (cellsB ((B.take (l + 1)).drop q)); rw [Hd3.out]; exact Hou.out) hown3 hgrow3 (by simpa using hkin3)
                have hb3 : Below w.heap.size w w3 := (hw6.alloc hw6.size _).grown hgrow3 (by simp; have := hw6.size; omega) (fun k hk => Hrwq.out.pF k (Hrwq.out.own ▸ hk))
                rw [← Hcu.out] at hpush
                have Hpush := hide hpush
                clear hpush hown3 hgrow3 hkin3 hrowA
                go_roundw
                case rel => exact ⟨j + 1, _, _, by omega, by rw [show 44 * (j + 1) = f0 + 44 by have := Hf0.out; omega]; go_num, Hpush.out, hb3⟩
                case measure => simp [intOf]; omega
    · obtain rfl : j = 6 := by omega
      have Hrw := hide hrw
      have hf6 : ¬ (f0 : Int) < 256 := by omega
      clear hrw
      go_wp2_with fail
      refine bodyPost_ret (v := .tuple #[.slice pa (cutU block A B 6).length pc, .int .i64 0]) (by simp [results, Try.results23, go_sem]) rfl ?_
      exact ⟨_, p, vs, rfl, Hrw.out, hbr⟩
end Go.Proofs.Ytgdlbfoihpdlhaa
