/- Contract: Clean of the document's cache. -/
import Derived.Test.YtjcmmigbkhiplaaT6
import Derived.Test.YtjcmmigbkhiplaaL2
import Derived.Test.YtjcmmigbkhiplaaQ9
set_option linter.unusedSimpArgs false
set_option linter.unusedVariables false
namespace Go.Proofs.Ytjcmmigbkhiplaa
open Go.RowKit Go.Attic

theorem posE_mem {E : List (En × Value)} {i : Nat} (h : ∃ x ∈ E, x.1.i = i) : ∃ k, ∃ hk : k < E.length, posE E (i : Int) = (k : Int) ∧ (E[k]).1.i = i ∧ findI (E.map Prod.fst) (i : Int) = some (E[k]).1 := by
  obtain ⟨x, hx, hxi⟩ := h
  rcases find_idx (E := E) (f := fun x => (x.1.i : Int) == (i : Int)) with ⟨m, hm, h1, h2⟩ | ⟨h1, h2⟩
  · refine ⟨m, hm, by unfold posE; rw [h1], ?_, ?_⟩
    · have := List.find?_some h2
      simp at this
      omega
    · unfold findI
      rw [fst_find, h2]
      rfl
  · have := List.find?_eq_none.1 h2 x hx
    simp [hxi] at this

theorem mark_E {E : List (En × Value)} (hnd : NodupE E) (k : Nat) (hk : k < E.length) : markC (E.map Prod.fst) ((E[k]).1.i : Int) = (E.set k (({ (E[k]).1 with d := false } : En), (E[k]).2)).map Prod.fst := by
  unfold markC
  apply List.ext_getElem (by simp)
  intro m h1 h2
  have hmE : m < E.length := by simpa using h1
  simp only [List.getElem_map, List.getElem_set]
  have hp := List.pairwise_iff_getElem.1 hnd
  by_cases hmk : k = m
  · subst hmk; simp
  · rw [if_neg hmk]
    have hne : (E[m]).1.i ≠ (E[k]).1.i := by
      rcases Nat.lt_or_gt_of_ne hmk with h | h
      · exact fun e => hp k m hk hmE h e.symm
      · exact hp m k hmE hk h
    rw [if_neg (by omega)]

theorem nodup_of_i {E : List (En × Value)} {A : List En} (hA : A.Pairwise fun x y => x.i ≠ y.i) (h : (E.map Prod.fst).map En.i = A.map En.i) : NodupE E := by
  have h1 : (A.map En.i).Pairwise (fun a b => a ≠ b) := by rw [List.pairwise_map]; exact hA
  rw [← h, List.pairwise_map, List.pairwise_map] at h1
  exact h1

section
variable {w w' : World} {c g : Nat} {S : Nat → Prop} {room n : Nat} {s s' : St} {A : List En}

theorem RDx.dturn {E : List (En × Value)} {F : Nat → Prop} {q p : Option Nat} {Fd : Nat → Prop} (h : RDx w c g S room n s E F q p Fd) (ht : TurnR w g Fd n s' w') :
    ∃ q' p' Fd' S', RDx w' c g S' room n s' E F q' p' Fd' ∧ Keeps (OwnR g Fd) w w' ∧ Keeps S w w' ∧ ∀ k, S' k → S k ∨ w.heap.size ≤ k := by
  obtain ⟨q', p', Fd', hd', hk, hF⟩ := ht
  have hca : ∀ k, (k = c ∨ F k) → ¬ OwnR g Fd k := h.ap
  have hcl : ∀ k, (k = c ∨ F k) → k < w.heap.size := fun k hk' => h.lt k (h.inS k (.inl hk'))
  have hO : ∀ k, OwnR g Fd' k → OwnR g Fd k ∨ w.heap.size ≤ k := by
    rintro k (e | e)
    · exact .inl (.inl e)
    · exact (hF k e).imp (fun h1 => .inr h1) id
  have hkS : Keeps S w w' := hk.mono (fun k hk' => h.inS k (.inr hk'))
  refine ⟨q', p', Fd', fun k => (k = c ∨ F k) ∨ OwnR g Fd' k, ⟨h.rc.keeps hk (hca c (.inl rfl)) (fun k hf => hca k (.inr hf)), hd', ?_, fun k hk' => hk', ?_⟩, hk, hkS, ?_⟩
  · intro k hk' ho
    rcases hO k ho with h1 | h1
    · exact hca k hk' h1
    · have := hcl k hk'; omega
  · rintro k (e | e)
    · exact Nat.lt_of_lt_of_le (hcl k e) hk.size
    · exact hd'.ownLt k e
  · rintro k (e | e)
    · exact .inl (h.inS k (.inl e))
    · exact (hO k e).imp (fun h1 => h.inS k (.inr h1)) id

/-- What stands in the rounds. -/
def RDR (V : World) (c g : Nat) (S : Nat → Prop) (room n : Nat) (t : St × List En × Int) (U : World) : Prop :=
  ∃ S', RD U c g S' room n t.1 t.2.1 ∧ Keeps S V U ∧ ∀ k, S' k → S k ∨ V.heap.size ≤ k

set_option maxRecDepth 100000 in
set_option maxHeartbeats 2000000 in
theorem rclean_any (h : RD w c g S room n s A) (hn : A.length ≤ 256) (hnd : A.Pairwise fun x y => x.i ≠ y.i) (hin : ∀ x ∈ A, x.i < n) (hpl : s.pend.length ≤ 900000) (ho : s.ops ≤ 900000) :
    Calls Try.prog 19 #[.pointer (some ⟨c, 0, none⟩)] w fun e w' => e = .returned (.int .i64 (cleanC n s A).2.2) ∧ ∃ S', RT w c g S room n (cleanC n s A).1 (cleanC n s A).2.1 w' S' := by
  have hd : Calls Try.prog 40 #[.pointer (some ⟨c, 0, none⟩)] w fun e w' => ∃ v, e = .returned v ∧ w'.ownsRow w.heap.size 3 1 v (dirtyL A).length (cellsI (dirtyL A)) ∧ Below w.heap.size w w' := by
    obtain ⟨E, F, q, p, Fd, hx, rfl⟩ := h
    have := rdirty_any hx (by simpa using hn) (NodupE.of hnd)
    rw [dlJ_all hnd hin] at this
    exact this
  have hSl := h.lt
  have hzm : ∀ z ∈ dirtyL A, ∃ x ∈ A, (x.i : Int) = z := fun z hz => by
    rw [dirtyL_mem] at hz
    obtain ⟨x, hx, _, e⟩ := hz
    exact ⟨x, hx, e.symm⟩
  have hlen : (dirtyL A).length ≤ 256 := by
    rw [dirtyL_len]
    have := List.length_filter_le (fun x : En => x.d) A
    omega
  have e9 : cleanC n s A = cleanF n s A (dirtyL A) := rfl
  rw [e9]
  obtain ⟨zs, hzs⟩ : ∃ zs, dirtyL A = zs := ⟨_, rfl⟩
  rw [hzs] at hd hzm hlen ⊢
  obtain ⟨N, hN⟩ : ∃ N, zs.length = N := ⟨_, rfl⟩
  rw [hN] at hd hlen
  have HN := hide hN
  have H := hide h
  have Hzm := hide hzm
  have Hnd := hide hnd
  clear h hzs hzm e9 hN hnd
  go_enter Try.func19, Try.ntmps19
  go_wp2_with fail
  refine hd.mono ?_
  rintro e V ⟨v, rfl, hv, hbV⟩
  obtain ⟨la, lc, rfl⟩ := owns_slice hv
  have hwz := hbV.size
  clear hd
  go_wp2_with fail
  go_loopw [4] (fun iv wr => ∃ j : Nat, j ≤ N ∧ iv = .int .i64 (j : Int) ∧ (cleanF n s A (zs.take j)).2.2 = 0 ∧ RDR V c g S room n (cleanF n s A (zs.take j)) wr) (fun iv _ => N - (intOf iv).toNat)
  case atStart => exact ⟨0, Nat.zero_le _, rfl, rfl, S, H.out.mono hbV, Keeps.refl _ _, fun k hk => .inl hk⟩
  case round =>
    obtain ⟨j, hj, rfl, herr, S1, hD1, hk1, hS1⟩ := hrel
    by_cases hjn : j < N
    · have hjl : j < zs.length := by have := HN.out; omega
      obtain ⟨lb, lc', e1, -, hgl⟩ : ∃ lb lc', la = some ⟨lb, 0, none⟩ ∧ lc' = lc ∧ True := by
        obtain ⟨a', c', e, _, hg⟩ := owns_form hv
        injection e with e1 e2 e3
        obtain ⟨b, rfl, _⟩ := hg (by omega)
        exact ⟨b, lc, e1, rfl, trivial⟩
      subst e1
      clear hgl
      have hlb := owns_lt hv lb rfl
      have hlb2 := owns_lt' hv lb rfl
      have hrowI := hk1.owns hv (fun b hb e => by have := hSl b e; have := owns_lt hv b hb; omega)
      have hcz : wr.cell? ⟨lb, j, none⟩ = some (.int .i64 (zs[j])) := by
        rw [hrowI.cellAt j (by omega)]
        simp [cellsI, hjl]
      obtain ⟨xa, hxa, hxi⟩ := Hzm.out (zs[j]) (List.getElem_mem hjl)
      obtain ⟨i, hi⟩ : ∃ i, xa.i = i := ⟨_, rfl⟩
      rw [hi] at hxi
      have hpe := cleanF_pend n s A (zs.take j)
      have hii := cleanF_i n s A (zs.take j)
      have hsn := cleanF_snoc n s A (zs.take j) (zs[j])
      have htk : zs.take j ++ [zs[j]] = zs.take (j + 1) := (List.take_succ_eq_append_getElem hjl).symm
      have hpre : zs.take (j + 1) <+: zs := List.take_prefix _ _
      rw [htk] at hsn
      rw [← hxi] at hsn hcz
      obtain ⟨⟨s1, A1, er0⟩, hst⟩ : ∃ t, cleanF n s A (zs.take j) = t := ⟨_, rfl⟩
      rw [hst] at herr hD1 hpe hii hsn
      simp only at herr hD1 hpe hii
      subst herr
      have htl : (zs.take j).length ≤ 256 := by simp; omega
      obtain ⟨E, F, q, p, Fd, hx, rfl⟩ := hD1
      have hndE := nodup_of_i Hnd.out hii
      have hEl : E.length ≤ 256 := by have := congrArg List.length hii; simp at this; omega
      have hmem : ∃ x ∈ E, x.1.i = i := by
        have : i ∈ ((E.map Prod.fst).map En.i) := by rw [hii]; exact List.mem_map.2 ⟨xa, hxa, hi⟩
        rw [List.map_map] at this
        obtain ⟨x, hx1, hx2⟩ := List.mem_map.1 this
        exact ⟨x, hx1, hx2⟩
      obtain ⟨k, hk, hpk, hki, hfi⟩ := posE_mem hmem
      have hat := rat_any hx.rc (i : Int) (by omega)
      rw [hpk] at hat
      obtain ⟨rv, x2, hE⟩ := hx.rc.c2
      obtain ⟨ra, rcap, rfl, -⟩ := hE.slice
      obtain ⟨rb, u, cu, rfl, e2, -, k1, k2, hbs, hyl⟩ := hE.at k hk
      have x0 := hx.rc.c0
      obtain ⟨nE, hnE⟩ : ∃ m, E.length = m := ⟨_, rfl⟩
      rw [hnE] at x2 hE hEl
      have hkn : (k : Int) < (nE : Int) := by omega
      have hk0 : (0 : Int) ≤ (k : Int) := by omega
      have hj0 : (j : Int) < (N : Int) := by omega
      obtain ⟨s2, er, hwr⟩ : ∃ s2 er, writeS s1 n (i : Int) (E[k]).1.l = (s2, er) := ⟨_, _, rfl⟩
      have hcall : Calls Try.prog 21 #[.pointer (some ⟨g, 0, none⟩), .int .i64 (i : Int), .slice u 256 cu] wr.drew fun e w' => e = .returned (.int .i64 er) ∧ TurnR wr.drew g Fd n s2 w' := by
        have := rwrite_yes (w := wr.drew) (hx.dr.mono (Below.refl _ wr).drew) (i : Int) _ (E[k]).1.l (hbs.mono (Below.refl _ wr).drew) (by rw [hyl]; omega) (by omega) (by omega)
        rw [hwr] at this
        exact this
      have hstep : cleanStep n (s1, E.map Prod.fst, 0) (i : Int) = if er = 0 then (s2, markC (E.map Prod.fst) (i : Int), 0) else (s2, E.map Prod.fst, er) := by
        unfold cleanStep
        simp only [ne_eq, not_true_eq_false, if_false]
        rw [hfi]
        simp only [hwr]
      rw [hstep] at hsn
      have hlbS : ¬ S1 lb := fun hs => by
        rcases hS1 lb hs with h | h
        · have := hSl lb h; omega
        · omega
      have hkey : ∀ W, TurnR wr.drew g Fd n s2 W → (W.cell? ⟨c, 0, none⟩ = some (.pointer (some ⟨g, 0, none⟩)) ∧ W.cell? ⟨lb, j, none⟩ = some (.int .i64 (i : Int)) ∧ W.cell? ⟨c, 2, none⟩ = some (.slice (some ⟨rb, 0, none⟩) nE rcap) ∧ W.cell? ⟨rb, k * 3 + 1, none⟩ = some (.slice u 256 cu)) ∧ (W.cell? ⟨c, 2, none⟩ = some (.slice (some ⟨rb, 0, none⟩) nE rcap) ∧ W.cell? ⟨rb, k * 3 + 2, none⟩ = some (.bool (E[k]).1.d) ∧ W.frozen? ⟨rb, k * 3 + 2, none⟩ = false) ∧
          (∃ S2, RD W c g S2 room n s2 (E.map Prod.fst) ∧ Keeps S V W ∧ ∀ k, S2 k → S k ∨ V.heap.size ≤ k) ∧
          ∃ S2, RD (W.setCell ⟨rb, k * 3 + 2, none⟩ (.bool false)) c g S2 room n s2 (markC (E.map Prod.fst) (i : Int)) ∧ Keeps S V (W.setCell ⟨rb, k * 3 + 2, none⟩ (.bool false)) ∧ ∀ k, S2 k → S k ∨ V.heap.size ≤ k := by
        intro W hT
        have hT' : TurnR wr g Fd n s2 W := by
          obtain ⟨a, b, d, e, f1, f2⟩ := hT
          exact ⟨a, b, d, e, (Keeps.drew wr).trans f1, f2⟩
        obtain ⟨q2, p2, Fd2, S2, hx2, hkO, hkS2, hS2⟩ := hx.dturn hT'
        have hcO : ¬ OwnR g Fd c := hx.ap c (.inl rfl)
        have hE2 := hE.keeps hkO (fun k hf => hx.ap k (.inr hf))
        have hrbO : ¬ OwnR g Fd rb := hx.ap rb (.inr (hE.pF rb rfl))
        have hVz := hk1.size
        have hS2' : ∀ k, S2 k → S k ∨ V.heap.size ≤ k := fun k hk => by
          rcases hS2 k hk with h | h
          · exact hS1 k h
          · exact .inr (by omega)
        have hkV : Keeps S V W := hk1.trans' hkS2 hS1
        have hrow2 : W.ownsRow 0 86 3 (.slice (some ⟨rb, 0, none⟩) nE rcap) nE (cellsE E) := by have := hE2.row; rw [hnE] at this; exact this
        have x2' := hkO.cell x2 hcO
        have hlS1 : ¬ S1 lb := hlbS
        refine ⟨⟨hkO.cell x0 hcO, hkS2.cell hcz hlS1, x2', hkO.cell k1 hrbO⟩, ⟨x2', hkO.cell k2 hrbO, hrow2.frozenAt _⟩, ⟨S2, ⟨_, _, _, _, _, hx2, rfl⟩, hkV, hS2'⟩, ?_⟩
        have hst := (hrow2.stored (k * 3 + 2) (.bool false)).1
        have hce := cellsE_set (E := E) k hk { (E[k]).1 with d := false } (E[k]).2 rfl
        have hsame : (cellsE E).set (k * 3 + 1) (E[k]).2 = cellsE E := by
          have h3 := (cellsE_at k hk).2.1
          obtain ⟨hlt, h4⟩ := List.getElem?_eq_some_iff.1 h3
          rw [← h4]
          exact List.set_getElem_self hlt
        rw [hsame] at hce
        have hce' : (cellsE E).set (k * 3 + 2) (.bool false) = cellsE (E.set k (({ (E[k]).1 with d := false } : En), (E[k]).2)) := hce.symm
        rw [hce'] at hst
        have hks : Keeps (fun k => (Value.slice (some ⟨rb, 0, none⟩) nE rcap).ownBlock = some k) W (W.setCell ⟨rb, k * 3 + 2, none⟩ (.bool false)) := Keeps.setCell (S := fun k => (Value.slice (some ⟨rb, 0, none⟩) nE rcap).ownBlock = some k) W rfl _
        have hmemk : (E[k]) ∈ E := List.getElem_mem hk
        obtain ⟨⟨hb1, hb2⟩, hb3⟩ := hE2.bs _ hmemk
        obtain ⟨F3, S3, hx3, hk3, hS3, -⟩ := hx2.reset (E' := E.set k (({ (E[k]).1 with d := false } : En), (E[k]).2)) (v' := (E[k]).2) (y' := { (E[k]).1 with d := false }) x2' hE2 hks (by simpa [hnE] using hst)
          (fun x hx' => by
            rcases List.mem_or_eq_of_mem_set hx' with h | h
            · exact .inl h
            · exact .inr h) ⟨hks.bs hb1 (fun b hb e => (hb3 b hb).2 e), hb2⟩ (fun b hb => ⟨.inl (hb3 b hb).1, (hb3 b hb).2⟩)
        refine ⟨S3, ⟨_, _, _, _, _, hx3, ?_⟩, hkV.trans' (hk3.mono (fun k hk => hx2.inS k (.inl hk))) hS2', fun k hk => ?_⟩
        · rw [← hki, mark_E hndE k hk]
        · rcases hS3 k hk with h | h
          · exact hS2' k h
          · have := hkS2.size; exact .inr (by omega)
      have Hkey := hide hkey
      have Hsn := hide hsn
      have Hcall := hide hcall
      generalize (E[k]).1.d = yd at *
      have hVz := hk1.size
      clear hkey hsn hcall hstep hwr hE hbs hyl hfi hx hndE hmem hii hst hxa hrowI hv htk hpk e2 hki hpe hxi hi hnE hk
      go_wp2_with fail
      refine hat.mono ?_
      rintro e w2 ⟨rfl, rfl⟩
      go_wp2_with fail
      have Sd : wr.drew.cell? ⟨c, 0, none⟩ = some (.pointer (some ⟨g, 0, none⟩)) ∧ wr.drew.cell? ⟨lb, j, none⟩ = some (.int .i64 (i : Int)) ∧ wr.drew.cell? ⟨c, 2, none⟩ = some (.slice (some ⟨rb, 0, none⟩) nE rcap) ∧ wr.drew.cell? ⟨rb, k * 3 + 1, none⟩ = some (.slice u 256 cu) := ⟨x0, hcz, x2, k1⟩
      go_region_held3 (fun w' => w'.cell? ⟨c, 0, none⟩ = some (.pointer (some ⟨g, 0, none⟩)) ∧ w'.cell? ⟨lb, j, none⟩ = some (.int .i64 (i : Int)) ∧ w'.cell? ⟨c, 2, none⟩ = some (.slice (some ⟨rb, 0, none⟩) nE rcap) ∧ w'.cell? ⟨rb, k * 3 + 1, none⟩ = some (.slice u 256 cu))
        (first | exact Sd | exact ⟨fours.1, fours.2.1, fours.2.2.1, fours.2.2.2⟩)
        (first
          | (go_at_call 21; refine Hcall.out.mono ?_; rintro e w2 ⟨rfl, hT⟩
             obtain ⟨fours, ⟨y2, yk, yf⟩, fA, fB⟩ := Hkey.out w2 hT
             have FA := hide fA
             have FB := hide fB
             clear fA fB hT))
      all_goals
        by_cases her : er = 0
        · subst her
          have hsn2 := Hsn.out
          rw [if_pos rfl] at hsn2
          obtain ⟨S2, hR2, hK2, hS2⟩ := FB.out
          have Hsn2 := hide hsn2
          have HR2 := hide hR2
          clear hsn2 hR2
          go_wp2_with fail
          go_roundw
          case rel => exact ⟨j + 1, by omega, by go_num, by rw [Hsn2.out], S2, by rw [Hsn2.out]; exact HR2.out, hK2, hS2⟩
          case measure => simp [intOf]; omega
        · have hsn2 := Hsn.out
          rw [if_neg her] at hsn2
          have e3 := cleanF_pre hpre (by rw [hsn2]; exact her)
          obtain ⟨S2, hR2, hK2, hS2⟩ := FA.out
          have hnb : (er != 0) = true := by simp [her]
          have E3 := hide (e3.trans hsn2)
          have HR2 := hide hR2
          clear hsn2 hR2 e3
          go_wp2_with fail
          go_ret
          rw [E3.out]
          exact ⟨rfl, S2, HR2.out, (Keeps.of_below hbV).trans hK2, fun k hk => (hS2 k hk).imp id (fun h => by omega)⟩
    · obtain rfl : j = N := by omega
      have hz : zs.take j = zs := List.take_of_length_le (by have := HN.out; omega)
      rw [hz] at herr hD1
      have HD1 := hide hD1
      have Herr := hide herr
      clear hD1 herr hz
      go_wp2_with fail
      go_ret
      exact ⟨by rw [Herr.out]; rfl, S1, HD1.out, (Keeps.of_below hbV).trans hk1, fun k hk => (hS1 k hk).imp id (fun h => by omega)⟩

end

end Go.Proofs.Ytjcmmigbkhiplaa
