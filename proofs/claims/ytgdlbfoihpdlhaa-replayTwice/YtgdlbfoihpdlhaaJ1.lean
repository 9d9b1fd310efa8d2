/- Contracts: slices.Grow and slices.Concat of records. -/
import Derived.Test.YtgdlbfoihpdlhaaL3
import Derived.Lib.AppendZeros
import Derived.Lib.SlBytesConst
set_option linter.unusedSimpArgs false
set_option linter.unusedVariables false
namespace Go.Proofs.Ytgdlbfoihpdlhaa
open Go.RowKit Go.Attic

abbrev Any (k : Nat) : Prop := True

theorem rs_cells {w : World} {b off : Nat} {rs : List Rc} {vs : List Value} (hl : vs.length = rs.length) (hc : ∀ i (hi : i < rs.length) (hv : i < vs.length), RcAt w b (off + i * 5) rs[i] vs[i]) :
    ∀ j u, (cellsR rs vs)[j]? = some u → w.cell? ((⟨b, off, none⟩ : Addr).add j) = some u := by
  intro j u hu
  have hj : j < rs.length * 5 := by
    have := (List.getElem?_eq_some_iff.1 hu).1
    rwa [cellsR_length rs vs hl] at this
  have hi : j / 5 < rs.length := by omega
  have hat := hc (j / 5) hi (by omega)
  have h5 := cellsR_at hl (j / 5) hi (j % 5) (by omega)
  rw [show j / 5 * 5 + j % 5 = j by omega, hu] at h5
  rw [Addr.add_lit]
  have hr : j % 5 = 0 ∨ j % 5 = 1 ∨ j % 5 = 2 ∨ j % 5 = 3 ∨ j % 5 = 4 := by omega
  rcases hr with e | e | e | e | e <;> rw [e] at h5 <;> injection h5 with h5 <;> subst h5
  · rw [show off + j = off + j / 5 * 5 by omega]; exact hat.c0
  · rw [show off + j = off + j / 5 * 5 + 1 by omega]; exact hat.c1
  · rw [show off + j = off + j / 5 * 5 + 2 by omega]; exact hat.c2
  · rw [show off + j = off + j / 5 * 5 + 3 by omega]; exact hat.c3
  · rw [show off + j = off + j / 5 * 5 + 4 by omega]; exact hat.c4

theorem owns_rs {w : World} {base : Nat} {v : Value} {rs : List Rc} {vs : List Value} (h : w.ownsRow base 48 5 v rs.length (cellsR rs vs)) (hl : vs.length = rs.length) (hb : ∀ i (hi : i < rs.length) (hv : i < vs.length), Bs w vs[i] (rs[i]).l) : Rs w Any v rs := by
  obtain ⟨ao, cap, e, hc, hg⟩ := owns_form h
  refine ⟨ao, cap, vs, e, hc, hl, fun hp => ?_, fun i hi hv => ⟨hb i hi hv, fun _ _ _ => trivial⟩⟩
  obtain ⟨b, rfl, _⟩ := hg hp
  subst e
  refine ⟨b, 0, rfl, trivial, fun i hi hv => ?_⟩
  have key : ∀ j u (hj : j < 5), ((rs[i]).cells (vs[i]))[j]? = some u → w.cell? ⟨b, 0 + i * 5 + j, none⟩ = some u := by
    intro j u hj hu
    have := h.cells (g := b) rfl _ _ ((cellsR_at hl i hi j hj).trans hu)
    rw [Addr.add_lit] at this
    rw [Nat.add_assoc]; exact this
  exact ⟨key 0 _ (by omega) rfl, key 1 _ (by omega) rfl, key 2 _ (by omega) rfl, key 3 _ (by omega) rfl, key 4 _ (by omega) rfl⟩

set_option maxRecDepth 100000 in
set_option maxHeartbeats 400000 in
theorem growR_any (n : Nat) (w : World) (hn : n ≤ 100000) :
    Calls Try.prog 39 #[.slice none 0 0, .int .i64 (n : Int)] w fun e w' => ∃ v, e = .returned v ∧ w'.ownsRow w.heap.size 48 5 v 0 [] ∧ Below w.heap.size w w' := by
  obtain ⟨i0, hi, hz0, hz1, hz2⟩ := info_parts Try.info48
  by_cases h0 : 0 < n
  · have hr := fun (w : World) => Lib.run_append_nil_zeros (P := Try.prog) w 22 3 22 48 i0 (.agg #[.int .i64 0, .int .i64 0, .int .i64 0, .slice none 0 0, .int .i64 0]) .i64 .i64 Try.underlying22 Try.underlying3 hi hz0 n h0 (by omega) (by omega) (by rw [hz2]; omega)
    have hcap := grownCap_ge w n 0 48
    have hmx := grownCap_le_maxLen w n 0 48 (by unfold maxLen; omega)
    have Hr := hide (hr w)
    clear hr
    go_enter Try.func39, Try.ntmps39
    go_wp2_with (at_builtin; refine Lib.wpList_append_run _ rfl (.tmp 20) (.tmp 21) 22 3 rfl _ _ rfl rfl _ _ Hr.out ?_)
    go_ret
    refine ⟨_, rfl, ?_, ((Below.refl _ _).alloc (Nat.le_refl _) _).drew⟩
    exact (World.ownsRow_made w _ (grownCap w n 0 48) (Nat.le_refl _) hmx (by simp [size_zeroCells]; omega)).drew
  · obtain rfl : n = 0 := by omega
    go_enter Try.func39, Try.ntmps39
    go_wp2_with fail
    go_ret
    exact ⟨_, rfl, World.ownsRow_nil _ _ _ _, Below.refl _ _⟩

/-- A slice of slices of records. -/
def Rss (w : World) (v : Value) (ls : List (List Rc)) : Prop :=
  ∃ b off cap, v = .slice (some ⟨b, off, none⟩) ls.length cap ∧ ∀ i, i < ls.length → ∃ u, w.cell? ⟨b, off + i, none⟩ = some u ∧ Rs w Any u (ls.getD i []) ∧ ∀ n c, u = .slice none n c → c = 0
theorem rflat_len (ls : List (List Rc)) (k : Nat) (hk : k < ls.length) : (ls.take (k + 1)).flatten = (ls.take k).flatten ++ ls.getD k [] := by
  rw [List.take_succ_eq_append_getElem hk, List.flatten_append]
  simp [List.getD, hk]
theorem rflat_le (ls : List (List Rc)) (k : Nat) : (ls.take k).flatten.length ≤ ls.flatten.length := by
  conv => rhs; rw [← List.take_append_drop k ls, List.flatten_append, List.length_append]
  omega
theorem Rss.two {w : World} {v1 v2 : Value} {l1 l2 : List Rc} (e : TypeId) (h1 : Rs w Any v1 l1) (h2 : Rs w Any v2 l2) (n1 : ∀ n c, v1 = .slice none n c → c = 0) (n2 : ∀ n c, v2 = .slice none n c → c = 0) : Rss (w.alloc (.cells #[v1, v2] e)) (.slice (some ⟨w.heap.size, 0, none⟩) 2 2) [l1, l2] := by
  have hb : Below w.heap.size w (w.alloc (.cells #[v1, v2] e)) := (Below.refl _ _).alloc (Nat.le_refl _) _
  refine ⟨w.heap.size, 0, 2, rfl, fun i hi => ?_⟩
  match i, hi with
  | 0, _ => exact ⟨v1, by simp, h1.mono hb, n1⟩
  | 1, _ => exact ⟨v2, by simp, h2.mono hb, n2⟩

set_option maxRecDepth 100000 in
set_option maxHeartbeats 1000000 in
theorem concatR_any (v : Value) (ls : List (List Rc)) (w : World) (h : Rss w v ls) (hn : ls.length ≤ 100) (hlen : ls.flatten.length ≤ 100000) :
    Calls Try.prog 26 #[v] w fun e w' => ∃ v', e = .returned v' ∧ Rs w' Any v' ls.flatten ∧ Below w.heap.size w w' := by
  obtain ⟨i0, hi, hz0, hz1, hz2⟩ := info_parts Try.info48
  obtain ⟨b, off, cap, rfl, hcell⟩ := h
  go_enter Try.func26, Try.ntmps26
  go_wp2_with fail
  go_loop [3, 11] (fun s i => ∃ k : Nat, k ≤ ls.length ∧ i = .int .i64 k ∧ s = .int .i64 ((ls.take k).flatten.length : Nat)) (fun _ i => ls.length - (intOf i).toNat)
  case atStart => exact ⟨0, Nat.zero_le _, rfl, rfl⟩
  case round =>
    obtain ⟨k, hk, rfl, rfl⟩ := hrel
    have hfl := rflat_le ls k
    by_cases hkn : k < ls.length
    · obtain ⟨u, hcu, hbu, -⟩ := hcell k hkn
      have hfk := rflat_len ls k hkn
      have hfl2 := rflat_le ls (k + 1)
      rw [hfk, List.length_append] at hfl2
      generalize ls.getD k [] = lk at *
      obtain ⟨ao, cp, rfl, hcp⟩ := hbu.slice
      have Hfk := hide hfk
      clear hfk hcell hbu
      generalize (ls.take k).flatten = fk at *
      go_wp2_with fail
      go_round
      case rel => exact ⟨k + 1, by omega, by go_num, by rw [Hfk.out, List.length_append]; go_num⟩
      case measure => simp [intOf]; omega
    · obtain rfl : k = ls.length := by omega
      rw [List.take_length]
      generalize hN : ls.flatten.length = N at *
      have HN := hide hN
      clear hN hfl
      go_wp2_with fail
      refine (growR_any N _ hlen).mono ?_
      rintro e w1 ⟨v1, rfl, hown1, hb1⟩
      have Hcell := hide hcell
      clear hcell
      go_wp2_with fail
      go_loopw [6, 27] (fun v i wr => ∃ (k : Nat) (vk : List Value), k ≤ ls.length ∧ i = .int .i64 k ∧ wr.ownsRow w.heap.size 48 5 v (ls.take k).flatten.length (cellsR (ls.take k).flatten vk) ∧ (vk.length = (ls.take k).flatten.length ∧ ∀ i (hi : i < (ls.take k).flatten.length) (hv : i < vk.length), Bs w vk[i] ((ls.take k).flatten[i]).l) ∧ Below w.heap.size w wr) (fun _ i _ => ls.length - (intOf i).toNat)
      case atStart => exact ⟨0, [], Nat.zero_le _, rfl, by simpa [cellsR] using hown1, ⟨rfl, fun i hi => by simp at hi⟩, hb1⟩
      case round =>
        obtain ⟨k, vk, hk, rfl, hown, ⟨hvl, hbs⟩, hb⟩ := hrel
        clear hown1 hb1
        obtain ⟨oa, oc, rfl⟩ := owns_slice hown
        by_cases hkn : k < ls.length
        · obtain ⟨u, hcu, hbu, hnn⟩ := Hcell.out k hkn
          have hcu2 : wr.cell? ⟨b, off + k, none⟩ = some u := by
            rw [hb.cell (p := ⟨b, off + k, none⟩) (by have := World.block_lt_of_cell? w _ hcu; simpa using this)]; exact hcu
          have hbu2 := hbu.mono hb
          have hfk := rflat_len ls k hkn
          have hfl2 := rflat_le ls (k + 1)
          rw [HN.out] at hfl2
          rw [hfk, List.length_append] at hfl2
          generalize ls.getD k [] = lk at *
          generalize (ls.take k).flatten = fk at *
          obtain ⟨ao, cp, vs, e, hcp, hvsl, hrow, hdat⟩ := hbu
          subst e
          have hdat2 : ∀ i (hi : i < (fk ++ lk).length) (hv : i < (vk ++ vs).length), Bs w (vk ++ vs)[i] ((fk ++ lk)[i]).l := by
            intro i hi hv
            simp at hi hv
            by_cases hil : i < fk.length
            · have h1 : i < vk.length := by omega
              simp only [List.getElem_append_left hil, List.getElem_append_left h1]
              exact hbs i hil h1
            · have g1 : (fk ++ lk)[i]'(by simp; omega) = lk[i - fk.length] := List.getElem_append_right (by omega)
              have g2 : (vk ++ vs)[i]'(by simp; omega) = vs[i - fk.length]'(by omega) := by
                rw [List.getElem_append_right (by omega)]
                simp only [hvl]
              rw [g1, g2]
              exact (hdat (i - fk.length) (by omega) (by omega)).1
          have hone : ∀ u ∈ cellsR lk vs, u.oneCell' = true := cellsR_one lk vs (fun v hv => by
            obtain ⟨i, hi, rfl⟩ := List.getElem_of_mem hv
            obtain ⟨a, c, e, _⟩ := (hdat i (by omega) hi).1
            exact ⟨a, _, c, e⟩)
          have hcl := cellsR_length lk vs hvsl
          have happ := cellsR_app fk lk vk vs hvl
          have hvl2 : (vk ++ vs).length = (fk ++ lk).length := by simp [hvl, hvsl]
          have Hfk := hide hfk
          have Hdat2 := hide hdat2
          have Happ := hide happ
          have Hvl2 := hide hvl2
          have hwz := hb.size
          clear hfk hcu hdat2 happ hvl2 hbs hdat hbu2
          by_cases hl0 : 0 < lk.length
          · obtain ⟨bl, ol, rfl, -, hrc⟩ := hrow hl0
            have hcells := rs_cells hvsl hrc
            have hcells2 : ∀ j u, (cellsR lk vs)[j]? = some u → wr.cell? ((⟨bl, ol, none⟩ : Addr).add j) = some u := fun j u hu => (Keeps.of_below (S := fun _ => False) hb).cell (hcells j u hu) id
            clear hcells hrc hrow
            go_wp2_with (at_builtin; refine wpList_append_own _ rfl (.tmp 31) (.tmp 32) 22 rfl w.heap.size 48 i0 (.agg #[.int .i64 0, .int .i64 0, .int .i64 0, .slice none 0 0, .int .i64 0]) 5 56 Try.underlying22 hi hz0 hz1 hz2 rfl (by decide) _ _ (cellsR fk vk) rfl hown ⟨bl, ol, none⟩ lk.length cp (cellsR lk vs) rfl hcl hcells2 hone (by unfold maxLen; omega) (by omega) hwz ?_; intro v4 w4 hown4 hgrow4 _)
            have hb4 : Below w.heap.size w w4 := hb.grown hgrow4 hwz (fun k hk => owns_lt hown k hk)
            rw [← Happ.out] at hown4
            have Ho4 := hide hown4
            clear hgrow4 hown hown4 hb hcells2 hone
            go_wp2_with fail
            go_roundw
            case rel => exact ⟨k + 1, vk ++ vs, by omega, by go_num, by rw [Hfk.out, List.length_append]; exact Ho4.out, ⟨by rw [Hfk.out]; exact Hvl2.out, by rw [Hfk.out]; exact Hdat2.out⟩, hb4⟩
            case measure => simp [intOf]; omega
          · have hl1 : lk.length = 0 := by omega
            have hv0 : cellsR lk vs = [] := List.eq_nil_of_length_eq_zero (by rw [hcl, hl1])
            rw [hv0, List.append_nil] at Happ
            have hfl : (fk ++ lk).length = fk.length := by simp [hl1]
            have Hfl := hide hfl
            have hown' := hown
            rw [← Happ.out, ← hfl] at hown'
            have Ho4 := hide hown'
            rw [hl1] at hcu2 hcp
            have Hl1 := hide hl1
            clear hfl hown' hone hcl hrow hl1 hl0 hv0
            cases ao with
            | none =>
              obtain rfl : cp = 0 := hnn _ _ rfl
              clear hnn
              go_wp2_with (at_builtin; refine wpList_append_own_none rfl (.tmp 31) (.tmp 32) 22 rfl w.heap.size 48 i0 5 Try.underlying22 hi _ _ _ rfl hown rfl ?_)
              go_wp2_with fail
              have Ho5 := Ho4.out
              rw [Hfl.out] at Ho5
              go_roundw
              case rel => exact ⟨k + 1, vk ++ vs, by omega, by go_num, by rw [Hfk.out, Hfl.out]; exact Ho5, ⟨by rw [Hfk.out]; exact Hvl2.out, by rw [Hfk.out]; exact Hdat2.out⟩, hb⟩
              case measure => simp [intOf]; omega
            | some ad =>
              clear hnn
              go_wp2_with (at_builtin; refine wpList_append_own _ rfl (.tmp 31) (.tmp 32) 22 rfl w.heap.size 48 i0 (.agg #[.int .i64 0, .int .i64 0, .int .i64 0, .slice none 0 0, .int .i64 0]) 5 56 Try.underlying22 hi hz0 hz1 hz2 rfl (by decide) _ _ (cellsR fk vk) rfl hown ad 0 cp [] rfl rfl (by simp) (by simp) (by unfold maxLen; omega) (by omega) hwz ?_; intro v4 w4 hown4 hgrow4 _)
              have hb4 : Below w.heap.size w w4 := hb.grown hgrow4 hwz (fun k hk => owns_lt hown k hk)
              rw [List.append_nil, Nat.add_zero, ← Happ.out] at hown4
              have Ho5 := hide hown4
              clear hgrow4 hown hown4 hb
              go_wp2_with fail
              go_roundw
              case rel => exact ⟨k + 1, vk ++ vs, by omega, by go_num, by rw [Hfk.out, Hfl.out]; exact Ho5.out, ⟨by rw [Hfk.out]; exact Hvl2.out, by rw [Hfk.out]; exact Hdat2.out⟩, hb4⟩
              case measure => simp [intOf]; omega
        · obtain rfl : k = ls.length := by omega
          rw [List.take_length] at hown hvl hbs ⊢
          have hres := owns_rs (owns_base hown (Nat.zero_le _)) hvl (fun i hi hv => (hbs i hi hv).mono hb)
          have Hres := hide hres
          clear hown hvl hbs hres
          go_wp2_with fail
          go_ret
          exact ⟨_, rfl, Hres.out, hb⟩

end Go.Proofs.Ytgdlbfoihpdlhaa
