/- Contract: the statements' live. -/
import Derived.Test.YtjhbljkoapbkfaaGreatM22
set_option linter.unusedSimpArgs false
set_option linter.unusedVariables false

namespace Go.Proofs.YtjhbljkoapbkfaaGreat
open Go.RowKit Go.Attic Go.Shelf

theorem patchR_ok (n : Nat) (h : n = 1 ∨ n = 2) : okRc (patchR n) := by
  left
  simp only [patchR]
  refine ⟨rfl, by omega, by omega, by simp, by simp, by omega, by simp, rfl⟩
theorem patchR_lt (n : Nat) (h : n = 1 ∨ n = 2) : ∀ x ∈ (patchR n).l, x < 256 := by
  intro x hx
  simp [patchR] at hx
  omega

/-- A ring on a disk that were opened just now. -/
theorem RD.opened {w w' : World} {r g m : Nat} {p : Option Nat} {F Fr : Nat → Prop} {n base blocks head : Nat} {s : St} {rs : List Rc} (hD : Dk w g m p F n s) (hb : Below w.heap.size w w') (hR : Rk w' r g base blocks head Fr rs) (hr : w.heap.size ≤ r) (hFr : ∀ k, Fr k → w.heap.size ≤ k) (hfit : base + blocks ≤ n) : RD w' r g m p F Fr n base blocks head s rs := by
  have hg := hD.gl
  have hm := hD.ml
  have hF := hD.Fl
  have key : ∀ k, w.heap.size ≤ k → ¬ Own g m F k := fun k hk h => by
    rcases h with h | h | h
    · omega
    · omega
    · have := hF k h; omega
  exact ⟨hD.mono hb, hR, key r hr, fun k hk => key k (hFr k hk), hfit⟩

/-- The list of two records as a call's arguments. -/
theorem rs_two (w : World) (x y : Rc) (u v : Value) (hu : Bs w u x.l) (hv : Bs w v y.l) : Rs (w.alloc (.cells #[.int .i64 x.k, .int .i64 x.b, .int .i64 x.o, u, .int .i64 x.m, .int .i64 y.k, .int .i64 y.b, .int .i64 y.o, v, .int .i64 y.m] 52)) (fun k => k = w.heap.size ∨ u.ownBlock = some k ∨ v.ownBlock = some k) (.slice (some ⟨w.heap.size, 0, none⟩) 2 2) [x, y] := by
  have hb : (w.alloc (.cells #[.int .i64 x.k, .int .i64 x.b, .int .i64 x.o, u, .int .i64 x.m, .int .i64 y.k, .int .i64 y.b, .int .i64 y.o, v, .int .i64 y.m] 52)).heap[w.heap.size]? = some (.cells #[.int .i64 x.k, .int .i64 x.b, .int .i64 x.o, u, .int .i64 x.m, .int .i64 y.k, .int .i64 y.b, .int .i64 y.o, v, .int .i64 y.m] 52 (0, 0)) := World.alloc_heap_new w _
  refine ⟨some ⟨w.heap.size, 0, none⟩, 2, [u, v], rfl, by simp, rfl, fun _ => ⟨w.heap.size, 0, rfl, .inl rfl, fun i hi hv => ?_⟩, fun i hi hv' => ?_⟩
  · match i, hi with
    | 0, _ => exact ⟨by unfold World.cell?; rw [hb]; rfl, by unfold World.cell?; rw [hb]; rfl, by unfold World.cell?; rw [hb]; rfl, by unfold World.cell?; rw [hb]; rfl, by unfold World.cell?; rw [hb]; rfl⟩
    | 1, _ => exact ⟨by unfold World.cell?; rw [hb]; rfl, by unfold World.cell?; rw [hb]; rfl, by unfold World.cell?; rw [hb]; rfl, by unfold World.cell?; rw [hb]; rfl, by unfold World.cell?; rw [hb]; rfl⟩
  · match i, hi with
    | 0, _ => exact ⟨hu.alloc _, fun _ k hk => .inr (.inl hk)⟩
    | 1, _ => exact ⟨hv.alloc _, fun _ k hk => .inr (.inr hk)⟩

/-- What was laid from the head on is scanned, where no other sector is as new. -/
theorem scanned_laid {s s' : St} {base blocks head : Nat} {rs rs' : List Rc} (hl : rs.length ≤ 4 * blocks) (hok : ∀ r ∈ rs, okRc r) (hlt : ∀ r ∈ rs, ∀ x ∈ r.l, x < 256) (hh : head + rs.length ≤ 2305843009213693952)
    (h1 : ∀ i (h : i < rs.length), secAt s' base blocks (head + i) = secRc (head + i) rs[i]) (h2 : rs.length = 4 * blocks ∨ NoRc (secAt s' base blocks (head + rs.length)) (head + rs.length)) (h : Scanned (secAt s' base blocks) head (4 * blocks) rs') : rs' = rs := by
  refine h.one ⟨fun i hi => ?_, hl, h2⟩
  rw [h1 i hi]
  exact secRc_is (hok _ (List.getElem_mem hi)) (by omega) (hlt _ (List.getElem_mem hi))

set_option maxRecDepth 100000 in
set_option maxHeartbeats 1000000 in
theorem live_any (w : World) : Calls Tryz.prog 5 #[] w fun e w' => e = .returned (.bool true) ∧ Below w.heap.size w w' := by
  go_enter Tryz.func5, Tryz.ntmps5
  go_wp2_with fail
  refine (new_yes 4 w (by omega) (by omega)).mono ?_
  rintro e w1 ⟨g, m, rfl, hD1, hb1, hg1, hm1⟩
  have hopen : Calls Tryz.prog 13 #[.pointer (some ⟨g, 0, none⟩), .int .i64 1, .int .i64 2, .int .i64 8] w1 _ := open_on hD1 rfl (by simp [newS, ofS]) 1 2 8 (by omega) (by omega) (by omega) (by omega)
  go_wp2_with fail
  refine hopen.mono ?_
  rintro e w2 ⟨rs, r, v, Fr, rfl, hsc, hR2, hr2, hFr2, hRs2, hb2⟩
  obtain rfl := scanned_new (by omega) (by omega) hsc
  have hRD2 := RD.opened hD1 hb2 hR2 hr2 hFr2 (by omega)
  obtain ⟨ao2, cap2, hv, -⟩ := hRs2.slice
  simp only [List.length_nil] at hv
  subst hv
  go_wp2_with fail
  refine (patch_1 _).mono ?_
  rintro e w3 ⟨u1, rfl, hu1, hu1a, hu1b, hb3⟩
  go_wp2_with fail
  refine (patch_2 _).mono ?_
  rintro e w4 ⟨u2, rfl, hu2, hu2a, hu2b, hb4⟩
  have hb24 : Below w2.heap.size w2 w4 := hb3.trans (hb4.mono hb3.size)
  have hRs4 := rs_two w4 (patchR 1) (patchR 2) (.slice (some ⟨u1, 0, none⟩) 2 2) (.slice (some ⟨u2, 0, none⟩) 2 2) (hu1.mono hb4) hu2
  obtain ⟨w5, hw5⟩ : ∃ w5, w4.alloc (.cells #[.int .i64 1, .int .i64 1, .int .i64 3, .slice (some ⟨u1, 0, none⟩) 2 2, .int .i64 0, .int .i64 1, .int .i64 2, .int .i64 3, .slice (some ⟨u2, 0, none⟩) 2 2, .int .i64 0] 52) = w5 := ⟨_, rfl⟩
  have hb5 : Below w4.heap.size w4 w5 := by rw [← hw5]; exact (Below.refl _ _).alloc (Nat.le_refl _) _
  have hz5 : w4.heap.size < w5.heap.size := by rw [← hw5]; simp
  have hRs5 : Rs w5 (fun k => k = w4.heap.size ∨ (Value.slice (some ⟨u1, 0, none⟩) 2 2).ownBlock = some k ∨ (Value.slice (some ⟨u2, 0, none⟩) 2 2).ownBlock = some k) (.slice (some ⟨w4.heap.size, 0, none⟩) 2 2) [patchR 1, patchR 2] := by rw [← hw5]; exact hRs4
  have hb25 : Below w2.heap.size w2 w5 := hb24.trans (hb5.mono hb24.size)
  have hpok : ∀ x ∈ [patchR 1, patchR 2], okRc x := by
    intro x hx
    simp only [List.mem_cons, List.not_mem_nil, or_false] at hx
    rcases hx with rfl | rfl
    · exact patchR_ok 1 (.inl rfl)
    · exact patchR_ok 2 (.inr rfl)
  have hplt : ∀ x ∈ [patchR 1, patchR 2], ∀ y ∈ x.l, y < 256 := by
    intro x hx
    simp only [List.mem_cons, List.not_mem_nil, or_false] at hx
    rcases hx with rfl | rfl
    · exact patchR_lt 1 (.inl rfl)
    · exact patchR_lt 2 (.inr rfl)
  obtain ⟨s', k1, k2, k3, k4, k5, k6, k7, k8, k9⟩ := lay_view (n := 4) (base := 1) (blocks := 2) (by omega) (by omega) 2 (newS 4) 8 [patchR 1, patchR 2] (by simp) hD1.ok rfl rfl hpok hplt (by simp)
  have hzg := hD1.gl
  have hzm := hD1.ml
  have hz2 : w1.heap.size ≤ w2.heap.size := hb2.size
  have hz3 : w2.heap.size ≤ w3.heap.size := hb3.size
  have hz4 : w3.heap.size ≤ w4.heap.size := hb4.size
  have hFrl := hR2.Fl
  have hrl := hR2.rl
  have happ := app_ok (hRD2.mono hb25) _ [patchR 1, patchR 2] _ hRs5 (by simp) (fun k hk => by
    have hk2 : w2.heap.size ≤ k ∧ k < w5.heap.size := by
      rcases hk with hk | hk | hk
      · omega
      · have e : u1 = k := by simpa [Value.ownBlock] using hk
        omega
      · have e : u2 = k := by simpa [Value.ownBlock] using hk
        omega
    refine ⟨hk2.2, fun h => ?_⟩
    rcases h with (h | h | h) | h | h
    · omega
    · omega
    · exact h
    · omega
    · have := hFrl k h; omega) (by simp [newS, ofS]) (by simp [newS, ofS]) hpok (by simp) (by simp) (by
      show (layN 4 1 2 2 (newS 4) 8 [patchR 1, patchR 2]).2 = 0
      rw [k1])
  have happ2 : Calls Tryz.prog 14 #[.pointer (some ⟨r, 0, none⟩), .slice (some ⟨w4.heap.size, 0, none⟩) 2 2] w5 fun e w' => e = .returned (.int .i64 0) ∧ RTurn w5 r g m (fun _ => False) Fr 4 1 2 8 s' [patchR 1, patchR 2] w' := by
    refine happ.mono ?_
    rintro e w' ⟨rfl, ht⟩
    have ht2 : RTurn w5 r g m (fun _ => False) Fr 4 1 2 8 (layN 4 1 2 2 (newS 4) 8 [patchR 1, patchR 2]).1 [patchR 1, patchR 2] w' := ht
    rw [k1] at ht2
    exact ⟨rfl, ht2⟩
  have hBw5 : Below w.heap.size w w5 := hb1.trans ((hb2.mono hb1.size).trans (hb25.mono (Nat.le_trans hb1.size hb2.size)))
  have HRs5 := hide hRs5
  clear happ hRs4 hopen hsc hRs2 hRs5
  go_wp2_with fail
  refine happ2.mono ?_
  rintro e w6 ⟨rfl, p6, F6, Fr6, hRD6, hk6, hF6⟩
  have htl : Calls Tryz.prog 16 #[.pointer (some ⟨r, 0, none⟩)] w6 fun e w' => e = .returned (.int .i64 10) ∧ ∃ n, w6.drewN n = w' := tail_yes hRD6.rk
  have hrm : ∀ W, Below w6.heap.size w6 W → Calls Tryz.prog 17 #[.pointer (some ⟨r, 0, none⟩)] W fun e w' => e = .returned (.int .i64 6) ∧ ∃ n, W.drewN n = w' := fun W hB => room_yes (hRD6.rk.mono hB)
  clear happ2
  go_wp2_with fail
  refine htl.mono ?_
  rintro e w7 ⟨rfl, n7, rfl⟩
  go_wp2_with fail
  refine (hrm _ (below_drewN (Below.refl _ _) n7)).mono ?_
  rintro e w8 ⟨rfl, n8, rfl⟩
  have hopen2 : ∀ W, Below w6.heap.size w6 W → Calls Tryz.prog 13 #[.pointer (some ⟨g, 0, none⟩), .int .i64 1, .int .i64 2, .int .i64 8] W fun e w' => ∃ rs r v Fr, e = .returned (.tuple #[.pointer (some ⟨r, 0, none⟩), v, .int .i64 0]) ∧
      Scanned (secAt s' 1 2) 8 (4 * 2) rs ∧ Rk w' r g 1 2 8 Fr rs ∧ W.heap.size ≤ r ∧ (∀ k, Fr k → W.heap.size ≤ k) ∧ Rs w' (fun k => W.heap.size ≤ k) v rs ∧ Below W.heap.size W w' := fun W hB => open_on (hRD6.dk.mono hB) k3 (by simp [newS, ofS] at k6; omega) 1 2 8 (by omega) (by omega) (by omega) (by omega)
  go_wp2_with fail
  refine (hopen2 _ (below_drewN (Below.refl _ _) _)).mono ?_
  rintro e w9 ⟨rs9, r9, v9, Fr9, rfl, hsc9, -, -, -, hRs9, hb9⟩
  obtain rfl := scanned_laid (s := newS 4) (rs := [patchR 1, patchR 2]) (by simp) hpok hplt (by simp) (fun i hi => k8 i hi) (.inr (by
    have e := k9 10 (fun i hi => by simp at hi; rcases i with _ | _ | i <;> simp <;> omega)
    have e0 : secAt (newS 4) 1 2 10 = List.replicate 64 0 := by
      unfold secAt
      have e1 : readL (newS 4) (1 + 10 / 4 % 2) = blockL (newS 4).med (1 + 10 / 4 % 2) := by simp [readL, newS, ofS, lastW]
      rw [e1, blockL_new 4 _ (by omega)]
    show NoRc (secAt s' 1 2 10) 10
    rw [e, e0]
    exact zeros_no _)) hsc9
  have hBw9 : Below w.heap.size w w9 := by
    have hzz : (w6.drewN (n7 + n8)).heap.size = w6.heap.size := rfl
    have hz6 := hk6.size
    have h6 : Below w.heap.size w w6 := hBw5.trans (hk6.below (fun k hk => by
      rcases hk with (h | h | h) | h | h
      · omega
      · omega
      · exact h.elim
      · omega
      · have := hFr2 k h; have := hb1.size; omega) hBw5.size)
    exact h6.trans ((below_drewN (Below.refl _ _) _).trans (hb9.mono h6.size))
  obtain ⟨a9, c9, hv9, hc9⟩ := hRs9.slice
  have hv9' : v9 = .slice a9 2 c9 := hv9
  subst hv9'
  obtain ⟨-, b9, o9, u9, rfl, -, hat9, hub9, -⟩ := hRs9.at 1 (by simp)
  have x0 : w9.cell? ⟨b9, o9 + 5, none⟩ = some (.int .i64 1) := hat9.c0
  have x1 : w9.cell? ⟨b9, o9 + 5 + 1, none⟩ = some (.int .i64 2) := hat9.c1
  have x2 : w9.cell? ⟨b9, o9 + 5 + 2, none⟩ = some (.int .i64 3) := hat9.c2
  have x3 : w9.cell? ⟨b9, o9 + 5 + 3, none⟩ = some u9 := hat9.c3
  have x4 : w9.cell? ⟨b9, o9 + 5 + 4, none⟩ = some (.int .i64 0) := hat9.c4
  have hub : Bs w9 u9 [2, 7] := hub9
  obtain ⟨ua9, uc9, hu9e, -⟩ := id hub
  have hu9e' : u9 = .slice ua9 2 uc9 := hu9e
  subst hu9e'
  have hlap : ∀ W, Calls Tryz.prog 8 #[.int .i64 10, .int .i64 2] W fun e w' => e = .returned (.int .i64 18) ∧ W = w' := fun W => lap_any 10 2 W
  have hS : ∀ W, Below w9.heap.size w9 W → W.cell? ⟨b9, o9 + 5, none⟩ = some (.int .i64 1) ∧ W.cell? ⟨b9, o9 + 5 + 1, none⟩ = some (.int .i64 2) ∧ W.cell? ⟨b9, o9 + 5 + 2, none⟩ = some (.int .i64 3) ∧ W.cell? ⟨b9, o9 + 5 + 3, none⟩ = some (.slice ua9 2 uc9) ∧ W.cell? ⟨b9, o9 + 5 + 4, none⟩ = some (.int .i64 0) := fun W hB => by
    have kk := Keeps.of_below (S := fun _ => False) hB
    exact ⟨kk.cell x0 id, kk.cell x1 id, kk.cell x2 id, kk.cell x3 id, kk.cell x4 id⟩
  have Hhat := hide hat9
  have Hub9 := hide hub9
  have hb0 := Below.refl w9.heap.size w9
  have hb0d : Below w9.heap.size w9 w9.drew := below_drew' w9
  clear hat9 hub9 hRs9 hsc9 hRD6 hRD2 hD1 k8 k9 hR2 htl hrm hopen2 hw5 hv9 hu9e
  go_wp2_with fail
  go_region_held3 (fun w' => w'.cell? ⟨b9, o9 + 5, none⟩ = some (.int .i64 1) ∧ w'.cell? ⟨b9, o9 + 5 + 1, none⟩ = some (.int .i64 2) ∧ w'.cell? ⟨b9, o9 + 5 + 2, none⟩ = some (.int .i64 3) ∧ w'.cell? ⟨b9, o9 + 5 + 3, none⟩ = some (.slice ua9 2 uc9) ∧ w'.cell? ⟨b9, o9 + 5 + 4, none⟩ = some (.int .i64 0))
    (exact hS _ (by assumption))
    (first
    | (go_at_call 15; refine (patch_2 _).mono ?_; rintro e y1 ⟨ub, rfl, hy1, -, -, hby1⟩; have hy1b : Below w9.heap.size w9 y1 := hb0d.trans (hby1.mono hb0d.size))
    | (go_at_call 18; refine (rsame_any 1 2 3 0 1 2 3 0 (.slice ua9 2 uc9) (.slice (some ⟨ub, 0, none⟩) 2 2) [2, 7] [2, 7] y1 (hub.mono hy1b) hy1).mono ?_; rintro e y2 ⟨rfl, hby2⟩; have hy2b : Below w9.heap.size w9 y2 := hy1b.trans (hby2.mono hy1b.size); rw [show sameB 1 2 3 0 [2, 7] 1 2 3 0 [2, 7] = true from rfl])
    | (go_at_call 8; refine (hlap _).mono ?_; rintro e y3 ⟨rfl, rfl⟩))
  rename_i hHeld
  clear hHeld
  go_wp2_with fail
  go_ret
  exact ⟨by simp, hBw9.trans (hy2b.mono hBw9.size)⟩


end Go.Proofs.YtjhbljkoapbkfaaGreat
