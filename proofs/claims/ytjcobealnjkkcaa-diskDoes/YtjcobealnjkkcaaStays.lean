/- Proved: the statement of DiskStays, for every script and every picks: a crash behind a flush leaves the medium, and so does one without picks; one whose picks are all 15 leaves what a flush would have left. No condition. -/
import Derived.Test.YtjcobealnjkkcaaH2
import Derived.Test.YtjcobealnjkkcaaReads
set_option linter.unusedSimpArgs false
set_option linter.unusedVariables false
namespace Go.Proofs.Ytjcobealnjkkcaa
open Go.RowKit Go.Attic Go.ChangeShapes Go.WideShapes

theorem pendL_yes {w : World} {g m : Nat} {p : Option Nat} {F : Nat → Prop} {n : Nat} {s : St} (h : Dk w g m p F n s) (most : Nat) (hlen : s.pend.length ≤ 1000000) (hmost : most ≤ 4611686018427387904) :
    Calls Try.prog 26 #[.pointer (some ⟨g, 0, none⟩), .int .i64 (most : Int)] w (TellsP w (s.pend.take most)) :=
  pendL_any F _ s.pend most w (fun w1 hb => pending_yes (h.mono hb) hlen) h.Fl (fun x hx => (h.ok.pend x hx).2.1) hlen hmost

theorem settleL_nil (med : List Nat) (ps : List (Nat × List Nat)) : settleL med ps [] = med := by cases ps <;> rfl
theorem settleL_none (med : List Nat) (ks : List Nat) : settleL med [] ks = med := by cases ks <;> rfl

theorem fillR_set (x n k : Nat) (hk : k < n) : (fillR x n k).set k x = fillR x n (k + 1) := by
  refine ext_getD (by rw [List.length_set, fillR_length _ _ _ (by omega), fillR_length _ _ _ (by omega)]) fun i hi => ?_
  rw [List.length_set, fillR_length _ _ _ (by omega)] at hi
  rw [fillR_getD _ _ _ _ (by omega)]
  simp only [List.getD_eq_getElem?_getD, List.getElem?_set]
  by_cases h : k = i
  · subst h
    rw [if_pos rfl, if_pos (by rw [fillR_length _ _ _ (by omega)]; omega), if_pos (by omega)]; rfl
  · rw [if_neg h]
    have := fillR_getD x n k i (by omega)
    rw [List.getD_eq_getElem?_getD] at this
    rw [this]
    by_cases h2 : i < k
    · rw [if_pos h2, if_pos (by omega)]
    · rw [if_neg h2, if_neg (by omega)]

set_option maxRecDepth 100000 in
set_option maxHeartbeats 4000000 in
theorem stays_walk (v vp : Value) (l : List OpX) (picks : List Nat) (w : World) (h : Ops w v l) (hlen : l.length ≤ 140737488355328) (hp : Bs w vp picks) (hpl : picks.length ≤ 140737488355328) :
    Calls Try.prog 6 #[v, vp] w fun e w' => e = .returned (.bool true) ∧ Below w.heap.size w w' := by
  obtain ⟨i0, hi, hz0, hz1, hz2⟩ := info_parts Try.info5
  have hcalm : Calm (playS l) 120 := by
    have := playK_calm l (min l.length 120) (by omega)
    rw [playK_end l _ rfl] at this
    exact ⟨this.on, this.left, by have := this.pend; omega, by have := this.ops; omega⟩
  have hpp : (playS l).pend.length ≤ 120 := hcalm.pend
  have hoo : (playS l).ops ≤ 120 := hcalm.ops
  have hc0 : crashS (playS l) [] = (crashed (playS l) [], 0) := by simp [crashS, hcalm.on]
  have hc0m : (crashed (playS l) []).med = (playS l).med := settleL_nil _ _
  have hf0 : (flushS (playS l)).2 = 0 := flushS_ok hcalm
  have hfc := hcalm.flush
  have hfm : (flushS (playS l)).1.med = settleL (playS l).med (playS l).pend (List.replicate (playS l).pend.length 15) := by simp [flushS, operS, hcalm.on, hcalm.left]
  have hfp : (flushS (playS l)).1.pend = [] := by simp [flushS, operS, hcalm.on, hcalm.left]
  have hcp : crashS (flushS (playS l)).1 picks = (crashed (flushS (playS l)).1 picks, 0) := by simp [crashS, hfc.on]
  have hcpm : (crashed (flushS (playS l)).1 picks).med = (flushS (playS l)).1.med := by simp only [crashed, hfp]; exact settleL_none _ _
  have hca : crashS (playS l) (List.replicate (playS l).pend.length 15) = (crashed (playS l) (List.replicate (playS l).pend.length 15), 0) := by simp [crashS, hcalm.on]
  have hcam : (crashed (playS l) (List.replicate (playS l).pend.length 15)).med = (flushS (playS l)).1.med := hfm.symm
  obtain ⟨s, hs⟩ : ∃ s, playS l = s := ⟨_, rfl⟩
  have hpa := fun w1 (hb : Below w.heap.size w w1) => played_any v l w1 (show Ops w1 v l by
    obtain ⟨ao, cap, e, hc, ha⟩ := h
    exact ⟨ao, cap, e, hc, fun hp' => by obtain ⟨b, off, e2, h2⟩ := ha hp'; exact ⟨b, off, e2, fun i hi => by obtain ⟨vp, hv⟩ := h2 i hi; exact ⟨vp, hv.mono hb⟩⟩⟩) hlen
  rw [hs] at hcalm hpp hoo hc0 hc0m hf0 hfc hfm hfp hcp hcpm hca hcam hpa
  obtain ⟨sf, hsf⟩ : ∃ sf, (flushS s).1 = sf := ⟨_, rfl⟩
  rw [hsf] at hfc hfm hfp hcp hcpm hcam
  clear hs
  go_enter Try.func6, Try.ntmps6
  go_wp2_with fail
  refine (hpa w (Below.refl _ _)).mono ?_
  rintro e w1 ⟨ga, ma, rfl, pa, Fa, hDa, hb1, hOa⟩
  go_wp2_with fail
  refine (hpa w1 hb1).mono ?_
  rintro e w2 ⟨gb, mb, rfl, pb, Fb, hDb, hb2, hOb⟩
  have z1 := hb1.size
  have z2 := hb2.size
  go_wp2_with fail
  refine (hpa w2 (hb1.trans (hb2.mono z1))).mono ?_
  rintro e w3 ⟨gc, mc, rfl, pc, Fc, hDc, hb3, hOc⟩
  have z3 := hb3.size
  go_wp2_with fail
  refine (live_any w3).mono ?_
  rintro e w4 ⟨rfl, hb4⟩
  have z4 := hb4.size
  have hLa := hDa.ownLt
  have hLb := hDb.ownLt
  have hLc := hDc.ownLt
  have hDa4 := (hDa.mono hb2).mono hb3 |>.mono hb4
  have hDb4 := (hDb.mono hb3).mono hb4
  have hDc4 := hDc.mono hb4
  go_wp2_with fail
  refine (image_yes hDa4).mono ?_
  rintro e w5 ⟨v5, rfl, ho5, hb5⟩
  have z5 := hb5.size
  go_wp2_with fail
  refine (pendL_yes (hDa4.mono hb5) 1048576 (by omega) (by omega)).mono ?_
  rintro e w6 ⟨v6, xs, rfl, hxs, ho6, hn6, hb6⟩
  have z6 := hb6.size
  have hxl : xs.length = s.pend.length := by
    have := congrArg List.length hxs
    simp at this
    omega
  rw [hxl] at ho6
  obtain ⟨ao6, cap6, rfl⟩ := owns_slice ho6
  obtain ⟨np, hnp⟩ : ∃ np, s.pend.length = np := ⟨_, rfl⟩
  rw [hnp] at hpp hfm hca hcam ho6 hxl ⊢
  have Hnp := hide hnp
  clear hnp
  go_wp2_with (at_make; refine wpList_make_full _ rfl (.tmp 36) (.tmp 36) 31 rfl w6.heap.size 5 i0 (.int .u8 0) 1 Try.underlying31 hi hz0 hz1 .i64 .i64 _ _ np rfl rfl rfl rfl (by rw [hz2]; omega) (by unfold maxLen; omega) (Nat.le_refl _) ?_; intro w7 hown hgrow)
  have hb7 : Below w6.heap.size w6 w7 := (Below.refl _ _).grown hgrow (Nat.le_refl _) (by intro k hk; cases hk)
  rw [made_zeros, show List.replicate np 0 = fillR 15 np 0 by simp [fillR]] at hown
  have h56 : Below w5.heap.size w5 w6 := hb6
  have Hxs := hide hxs
  have Hxl := hide hxl
  have Hn6 := hide hn6
  clear hgrow ho6 hxs hxl hn6
  have hclean : True := trivial
  go_loopw [40] (fun i wr => ∃ k : Nat, k ≤ np ∧ i = .int .i64 k ∧ wr.ownsRow w6.heap.size 5 1 (.slice (some ⟨w6.heap.size, 0, none⟩) np np) np (cellsB (fillR 15 np k)) ∧ Below w6.heap.size w6 wr) (fun i _ => np - (intOf i).toNat)
  case atStart => exact ⟨0, by omega, rfl, hown, hb7⟩
  case round =>
    obtain ⟨k, hk, rfl, o1, b1⟩ := hrel
    clear hown hb7
    by_cases hkn : k < np
    · have hcl := owns_cell o1 (fillR_length _ _ _ hk).symm k (by rw [fillR_length _ _ _ hk]; exact hkn)
      have hfz := o1.frozenAt k
      have hst := owns_byte o1 k 15
      rw [fillR_set 15 np k hkn] at hst
      have hb2' := b1.setCell (p := ⟨w6.heap.size, k, none⟩) (Nat.le_refl _) (.int .u8 ((15 : Nat) : Int))
      have Hst := hide hst
      have Hb2 := hide hb2'
      clear hst hb2' o1
      go_wp2_with fail
      exact ⟨⟨k + 1, by omega, by go_num, Hst.out, Hb2.out⟩, by simp [intOf]; omega⟩
    · obtain rfl : k = np := by omega
      rw [show fillR 15 k k = List.replicate k 15 by simp [fillR]] at o1
      have z7 := b1.size
      have hall := Bs.of_owns o1 (fun y hy => by rw [List.eq_of_mem_replicate hy]; omega)
      have hallb := owns_lt' o1
      -- the three disks, and the old medium
      have hDa7 := ((hDa4.mono hb5).mono hb6).mono b1
      have hDb7 := ((hDb4.mono hb5).mono hb6).mono b1
      have hDc7 := ((hDc4.mono hb5).mono hb6).mono b1
      have ho57 := (Keeps.of_below (S := fun _ => False) ((hb6.trans (b1.mono z6)))).owns ho5 (fun _ _ => id)
      have hwas := Bs.of_owns ho57 hDa4.ok.lt
      have hlt5 := ho5.lt
      have hlt1 := o1.lt
      have HDa := hide hDa7
      have HDb := hide hDb7
      have HDc := hide hDc7
      clear hDa7 hDb7 hDc7 hDa4 hDb4 hDc4 hDa hDb hDc o1 ho57
      go_wp2_with fail
      refine (crash_yes HDa.out (.slice none 0 0) [] (Bs.nil _) (by simp) (by rw [Hnp.out]; omega) (by simp)).mono ?_
      rintro e w8 ⟨rfl, hT8⟩
      rw [hc0] at hT8 ⊢
      dsimp only at hT8 ⊢
      obtain ⟨pa8, Fa8, hDa8, k8, hf8⟩ := hT8
      have z8 := k8.size
      have hDb8 := HDb.out.keeps k8 (fun e => by have := hLa _ e; have := hOb gb (.inl rfl); omega) (fun e => by have := hLa _ e; have := hOb mb (.inr (.inl rfl)); omega) (fun j hj e => by have := hLa _ e; have := hOb j (.inr (.inr hj)); omega)
      have hDc8 := HDc.out.keeps k8 (fun e => by have := hLa _ e; have := hOc gc (.inl rfl); omega) (fun e => by have := hLa _ e; have := hOc mc (.inr (.inl rfl)); omega) (fun j hj e => by have := hLa _ e; have := hOc j (.inr (.inr hj)); omega)
      have hwas8 := k8.bs hwas (fun b hb e => by have := hLa _ e; have := (hlt5 b hb).1; omega)
      have hall8 := k8.bs hall (fun b hb e => by have := hLa _ e; have := (hlt1 b hb).1; omega)
      have hb8 : Below w.heap.size w w8 := ((((hb1.trans (hb2.mono (by omega))).trans (hb3.mono (by omega))).trans (hb4.mono (by omega))).trans (hb5.mono (by omega))).trans ((hb6.mono (by omega)).trans ((b1.mono (by omega)).trans (k8.below hOa (by omega))))
      have hvp8 := hp.mono hb8
      clear k8 hf8 hall hwas
      go_wp2_with fail
      refine (image_yes hDa8).mono ?_
      rintro e w9 ⟨v9, rfl, ho9, hb9⟩
      have z9 := hb9.size
      rw [hc0m] at ho9
      have hs9 := Bs.of_owns ho9 (by have := hDa8.ok.lt; rw [hc0m] at this; exact this)
      go_wp2_with fail
      refine (equal_any _ _ _ _ _ hs9 (hwas8.mono hb9)).mono ?_
      rintro e w' ⟨rfl, rfl⟩
      rw [decide_eq_true rfl]
      have hDb9 := hDb8.mono hb9
      have hDc9 := hDc8.mono hb9
      clear hs9 ho9 hDb8 hDc8 hDa8
      go_wp2_with fail
      refine (flush_yes hDb9 (by rw [Hnp.out]; omega) (by omega)).mono ?_
      rintro e wA ⟨rfl, hTA⟩
      rw [hf0]
      rw [hsf] at hTA
      obtain ⟨pbA, FbA, hDbA, kA, hfA⟩ := hTA
      have zA := kA.size
      have hDcA := hDc9.keeps kA (fun e => by have := hLb _ e; have := hOc gc (.inl rfl); omega) (fun e => by have := hLb _ e; have := hOc mc (.inr (.inl rfl)); omega) (fun j hj e => by have := hLb _ e; have := hOc j (.inr (.inr hj)); omega)
      have hallA := kA.bs (hall8.mono hb9) (fun b hb e => by have := hLb _ e; have := (hlt1 b hb).1; omega)
      have hOb' : ∀ k, Own gb mb Fb k → w.heap.size ≤ k := fun k hk => by have := hOb k hk; omega
      have hOc' : ∀ k, Own gc mc Fc k → w.heap.size ≤ k := fun k hk => by have := hOc k hk; omega
      have hbA : Below w.heap.size w wA := (hb8.trans (hb9.mono (by omega))).trans (kA.below hOb' (by omega))
      have hObA := own_turn hOb' (show w.heap.size ≤ w9.heap.size by omega) hfA
      have hvpA := hp.mono hbA
      have hOcA : ∀ k, Own gb mb FbA k → k < w2.heap.size ∨ w9.heap.size ≤ k := by
        rintro k (e | e | e)
        · exact .inl (hLb k (.inl e))
        · exact .inl (hLb k (.inr (.inl e)))
        · rcases hfA k e with e | e
          · exact .inl (hLb k (.inr (.inr e)))
          · exact .inr e
      clear hDc9 hDb9 hall8 kA hfA hwas8 hvp8
      go_wp2_with fail
      refine (image_yes hDbA).mono ?_
      rintro e wB ⟨vB, rfl, hoB, hbB⟩
      have zB := hbB.size
      have hsB := Bs.of_owns hoB hDbA.ok.lt
      have hltB := hoB.lt
      have hlmed : 0 < sf.med.length := by have := hDbA.ok.len; omega
      have hvpB := hvpA.mono hbB
      go_wp2_with fail
      refine (crash_yes (hDbA.mono hbB) vp picks hvpB (fun hpe b hb e => by
        have h1 := hObA mb (.inr (.inl rfl))
        subst e
        have := bs_lt2 hp hpe b hb; omega) (by rw [hfp]; simp) hpl).mono ?_
      rintro e wC ⟨rfl, hTC⟩
      rw [hcp] at hTC ⊢
      dsimp only at hTC ⊢
      obtain ⟨pbC, FbC, hDbC, kC, hfC⟩ := hTC
      have zC := kC.size
      have hDcC := (hDcA.mono hbB).keeps kC (fun e => by rcases hOcA _ e with h | h; have := hOc gc (.inl rfl); omega; have := hLc gc (.inl rfl); omega) (fun e => by rcases hOcA _ e with h | h; have := hOc mc (.inr (.inl rfl)); omega; have := hLc mc (.inr (.inl rfl)); omega) (fun j hj e => by rcases hOcA _ e with h | h; have := hOc j (.inr (.inr hj)); omega; have := hLc j (.inr (.inr hj)); omega)
      have hltA := hDbA.ownLt
      have hsC := kC.bs hsB (fun b hb e => by have := hltA _ e; have := (hltB b hb).1; omega)
      have hallC := kC.bs (hallA.mono hbB) (fun b hb e => by rcases hOcA _ e with h | h; have := (hlt1 b hb).1; omega; have := hallb b hb; omega)
      have hbC : Below w.heap.size w wC := (hbA.trans (hbB.mono (by omega))).trans (kC.below hObA (by omega))
      clear hDbA hDcA hsB hallA kC hfC hvpA hvpB hoB
      go_wp2_with fail
      refine (image_yes hDbC).mono ?_
      rintro e wD ⟨vD, rfl, hoD, hbD⟩
      have zD := hbD.size
      rw [hcpm] at hoD
      have hsD := Bs.of_owns hoD (by have := hDbC.ok.lt; rw [hcpm] at this; exact this)
      have hsC2 := hsC.mono hbD
      go_wp2_with fail
      refine (equal_any _ _ _ _ _ hsD hsC2).mono ?_
      rintro e w' ⟨rfl, rfl⟩
      rw [decide_eq_true rfl]
      have hDcD := hDcC.mono hbD
      have hallD := hallC.mono hbD
      clear hsD hDbC hDcC hallC hsC hoD
      go_wp2_with fail
      refine (crash_yes hDcD _ (List.replicate k 15) (by first | exact hallD | simpa using hallD) (fun _ b hb e => by
        have := hLc mc (.inr (.inl rfl))
        have e2 : b = w6.heap.size := by simpa [Value.ownBlock] using hb.symm
        omega) (by rw [Hnp.out]; omega) (by simp; omega)).mono ?_
      rintro e wE ⟨rfl, hTE⟩
      rw [hca] at hTE ⊢
      dsimp only at hTE ⊢
      obtain ⟨pcE, FcE, hDcE, kE, hfE⟩ := hTE
      have zE := kE.size
      have hsE := kE.bs hsC2 (fun b hb e => by have := hLc _ e; have := (hltB b hb).1; omega)
      have hbE : Below w.heap.size w wE := (hbC.trans (hbD.mono (by omega))).trans (kE.below hOc' (by omega))
      clear kE hfE hDcD hallD hsC2
      go_wp2_with fail
      refine (image_yes hDcE).mono ?_
      rintro e wF ⟨vF, rfl, hoF, hbF⟩
      rw [hcam] at hoF
      have hsF := Bs.of_owns hoF (by have := hDcE.ok.lt; rw [hcam] at this; exact this)
      go_wp2_with fail
      refine (equal_any _ _ _ _ _ hsF (hsE.mono hbF)).mono ?_
      rintro e w' ⟨rfl, rfl⟩
      rw [decide_eq_true rfl]
      go_wp2
      go_ret
      exact ⟨by simp, hbE.trans (hbF.mono (by omega))⟩

theorem diskStays_lifted (os : Os) (started : os.Started) (H : Type) (enc : TypeId × Value → H) :
    ReturnsInHanded {} Try.checked os 6 .any (Rows.diskStaysSpec.pre6 enc Try.prog Try.f6 Rows.diskStaysRow.domain false) (Rows.diskStaysSpec.post enc Try.prog Try.f6 false true false false) := by
  refine law_frame (C := Try.checked) rfl Try.own started (by kernel_rfl) Try.func6
    (ChangeSpec.witness6 (enc := enc) (C := Try.checked) false ⟨#[], #[.slice none 0 0, .slice none 0 0], []⟩ 8 (by kernel_rfl) (by kernel_rfl) (by kernel_rfl) (by kernel_rfl))
    Try.laidOut ?_ 4 rfl Try.underlying4 ?_ ?_
  · rw [Try.params6]
    intro t ht
    simp at ht
    rcases ht with rfl | rfl <;> exact ⟨by kernel_rfl, of_decide_eq_true (by kernel_rfl)⟩
  · intro ds hn
    rw [Try.params6] at hn
    match ds, hn with
    | [d1, d2], _ => rfl
  · intro W base args ds p hval0 hA hsz
    have hval : ∀ (j : Nat) t v, Try.f6.params[j]? = some t → args[j]? = some v → Value.okWide Try.prog W .any base t v := hval0
    rw [Try.params6] at hA hsz hval
    obtain ⟨v0, vs0, d0, ds0, p0, q0, hargs, rfl, rfl, h0, r0⟩ := trodAll_cons hA
    obtain ⟨v1, vs1, d1, ds1, p1, q1, rfl, rfl, rfl, h1, r1⟩ := trodAll_cons r0
    obtain ⟨rfl, rfl, rfl⟩ := trodAll_nil r1
    obtain rfl : args = #[v0, v1] := by cases args; simp_all
    obtain ⟨l0, hop0, hol0⟩ := Ops.came (hval 0 22 v0 rfl rfl) h0 hsz (j := 0) rfl rfl
    obtain ⟨l1, hbs1, hl1⟩ := Bs.came Try.underlying31 Try.underlying5 (by kernel_rfl) (hval 1 31 v1 rfl rfl) h1
    have hlen1 := came_len hsz (j := 1) (t := 31) rfl rfl Try.underlying31 (by kernel_rfl) hl1
    exact stays_walk _ _ l0 l1 W hop0 hol0 hbs1 (by omega)

theorem diskStays_holds : Rows.DiskStaysSaid :=
  OpenClaim.holds_of_wide 6 Try.f6 rfl rfl rfl rfl rfl rfl rfl ⟨rfl, rfl, rfl, rfl, rfl⟩ rfl rfl rfl rfl rfl (by kernel_rfl) Try.func6 (by kernel_rfl)
    (of_decide_eq_true (by kernel_rfl)) (by unfold Func.isWrapper; first | (rw [if_pos (by decide +kernel)]; kernel_rfl) | (rw [if_neg (by decide +kernel)]; exact ⟨rfl, rfl⟩))
    (fun os started H enc _ => diskStays_lifted os started H enc)
#print axioms diskStays_holds

end Go.Proofs.Ytjcobealnjkkcaa
