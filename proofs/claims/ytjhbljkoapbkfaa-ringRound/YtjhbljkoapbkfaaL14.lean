/- Contract: Trim. -/
import Derived.Test.YtjhbljkoapbkfaaL13
set_option linter.unusedSimpArgs false
set_option linter.unusedVariables false
namespace Go.Proofs.Ytjhbljkoapbkfaa
open Go.RowKit Go.Attic Go.Shelf

/-- A ring from which the first records were let go. -/
theorem Rk.trimmed {w w2 : World} {r g base blocks head : Nat} {F : Nat → Prop} {rs : List Rc} (h : Rk w r g base blocks head F rs) {p : Option Nat} {v v' : Value} {vs : List Value} {k : Nat} (c4 : w.cell? ⟨r, 4, none⟩ = some v) (hW : Rw w p F v rs vs) (k2 : Keeps (fun b => p = some b) w w2)
    (hW2 : Rw w2 p F v' (rs.drop k) (vs.drop k)) (hk : k ≤ rs.length) (hh : head + k ≤ 1152921504606846976) : Rk ((w2.setCell ⟨r, 4, none⟩ v').setCell ⟨r, 3, none⟩ (.int .i64 ((head + k : Nat) : Int))) r g base blocks (head + k) F (rs.drop k) := by
  have hpr : ¬ (fun b => p = some b) r := fun e => h.Fr (hW.pF r e)
  have hrl := h.rl
  have kS : Keeps (fun b => b = r) w2 ((w2.setCell ⟨r, 4, none⟩ v').setCell ⟨r, 3, none⟩ (.int .i64 ((head + k : Nat) : Int))) := (keeps_set w2 r 4 v').trans (keeps_set _ r 3 _)
  refine ⟨cell_set_other (cell_set_other (k2.cell h.c0 hpr) (by omega)) (by omega), cell_set_other (cell_set_other (k2.cell h.c1 hpr) (by omega)) (by omega), cell_set_other (cell_set_other (k2.cell h.c2 hpr) (by omega)) (by omega), cell_set_same (cell_set_other (k2.cell h.c3 hpr) (by omega)),
    ⟨p, v', vs.drop k, cell_set_other (cell_set_same (k2.cell c4 hpr)) (by omega), hW2.keeps kS (fun b hb e => by have e' : b = r := e; exact h.Fr (e' ▸ hb))⟩, ?_, ?_, h.Fr, fun b hb => ?_, h.b1, h.b2, h.b3, hh, by have := h.ln; simp; omega, fun x hx => h.ok x (List.mem_of_mem_drop hx)⟩
  · simpa [k2.frozen (a := ⟨r, 3, none⟩) hrl hpr] using h.f3
  · simpa [k2.frozen (a := ⟨r, 4, none⟩) hrl hpr] using h.f4
  · have := h.Fl b hb
    have := k2.size
    simp
    omega

set_option maxRecDepth 100000 in
set_option maxHeartbeats 600000 in
theorem trim_yes {w : World} {r g m : Nat} {p : Option Nat} {F Fr : Nat → Prop} {n base blocks head : Nat} {s : St} {rs : List Rc} (h : RD w r g m p F Fr n base blocks head s rs) (k : Nat) (hk : k ≤ rs.length) (hh : head + k ≤ 1152921504606846976) :
    Calls Try.prog 18 #[.pointer (some ⟨r, 0, none⟩), .int .i64 ((head + k : Nat) : Int)] w fun e w' => e = .returned (.int .i64 0) ∧ RTurn w r g m F Fr n base blocks (head + k) s (rs.drop k) w' := by
  have hR := h.rk
  have hm := gMade_yes hR
  have hhd := head_yes hR
  have htl := tail_yes hR
  obtain ⟨pw, pv, vs, c4, hW⟩ := hR.c4
  obtain ⟨pao, pcap, rfl⟩ := owns_slice hW.row
  have c3 := hR.c3
  have f3 := hR.f3
  have f4 := hR.f4
  have hrl := hR.rl
  have hlen : rs.length ≤ 1024 := by have := hR.ln; have := hR.b2; omega
  have hdel : ∀ W, Below w.heap.size w W → Calls Try.prog 39 #[.slice pao rs.length pcap, .int .i64 0, .int .i64 (k : Int)] W fun e w' => ∃ v', e = .returned v' ∧ Rw w' pw Fr v' (rs.drop k) (vs.drop k) ∧ Keeps (fun b => pw = some b) W w' := fun W hB => delete_any (hW.mono hB) k hk (by omega)
  have hpr : ¬ (fun b => pw = some b) r := fun e => hR.Fr (hW.pF r e)
  have hsub : ((head + k : Nat) : Int) - (head : Int) = (k : Int) := by omega
  have hge : ¬ ((head + k : Nat) : Int) < (head : Int) := by omega
  have hle : ¬ ((head + rs.length : Nat) : Int) < ((head + k : Nat) : Int) := by omega
  have H := hide h
  have HW := hide hW
  obtain ⟨hk', hhk⟩ : ∃ x : Nat, head + k = x := ⟨_, rfl⟩
  obtain ⟨tl, htle⟩ : ∃ x : Nat, head + rs.length = x := ⟨_, rfl⟩
  have hb1 : hk' ≤ 1152921504606846976 := by omega
  rw [hhk] at hsub hge hle ⊢
  rw [htle] at hle htl
  have Hhk := hide hhk
  have Hsub := hide hsub
  have hsub2 : IntKind.i64.wrap ((hk' : Int) - (head : Int)) = (k : Int) := by rw [hsub]; exact wrap_small (by omega)
  clear h hW hR hhk htle
  go_enter Try.func18, Try.ntmps18
  go_wp2_with fail
  refine hm.mono ?_
  rintro e w' ⟨rfl, rfl⟩
  go_wp2_with fail
  refine hhd.mono ?_
  rintro e w' ⟨rfl, rfl⟩
  go_wp2_with fail
  refine htl.mono ?_
  rintro e w' ⟨rfl, nd, rfl⟩
  have hbX : Below w.heap.size w (w.drewN nd) := below_drewN (Below.refl _ _) _
  have c3' : (w.drewN nd).cell? ⟨r, 3, none⟩ = some (.int .i64 (head : Int)) := c3
  have c4' : (w.drewN nd).cell? ⟨r, 4, none⟩ = some (.slice pao rs.length pcap) := c4
  have f3' : (w.drewN nd).frozen? ⟨r, 3, none⟩ = false := f3
  have f4' : (w.drewN nd).frozen? ⟨r, 4, none⟩ = false := f4
  clear hm hhd htl
  go_wp2_with fail
  generalize w.drewN nd = X at *
  have hdelX := hdel X.drew hbX.drew
  clear hdel c3 c4 f3 f4 hsub hge hle
  go_region_law (first
    | (go_simp; refine hdelX.mono ?_; rintro e w1 ⟨v1, rfl, hW1, hk1⟩; obtain ⟨ao1, cap1, rfl⟩ := owns_slice hW1.row
       have hk1' : Keeps (fun b => pw = some b) X w1 := (Keeps.drew X).trans hk1
       have c4'' := hk1'.cell c4' hpr
       have f4'' : w1.frozen? ⟨r, 4, none⟩ = false := (by rw [hk1'.frozen (a := ⟨r, 4, none⟩) (Nat.lt_of_lt_of_le hrl hbX.size) hpr]; exact f4')
       have c3'' := hk1'.cell c3' hpr
       have f3'' : w1.frozen? ⟨r, 3, none⟩ = false := (by rw [hk1'.frozen (a := ⟨r, 3, none⟩) (Nat.lt_of_lt_of_le hrl hbX.size) hpr]; exact f3')
       skip))
  all_goals
    have HW1 := hide hW1
    clear hW1 hdelX hk1
    go_wp2_with fail
    go_ret
    have hT := (H.out.rk.mono hbX).trimmed (k := k) c4' (HW.out.mono hbX) hk1' HW1.out hk hh
    rw [Hhk.out, List.length_drop] at hT
    have kT : Keeps (fun b => b = r ∨ Fr b) X ((w1.setCell ⟨r, 4, none⟩ (.slice ao1 (rs.length - k) cap1)).setCell ⟨r, 3, none⟩ (.int .i64 (hk' : Int))) := (hk1'.mono (fun b hb => .inr (HW.out.pF b hb))).trans (((keeps_set w1 r 4 _).mono (fun b hb => .inl hb)).trans ((keeps_set _ r 3 _).mono (fun b hb => .inl hb)))
    have hno : ∀ b, (b = r ∨ Fr b) → ¬ Own g m F b := fun b hb => by
      rcases hb with rfl | hb
      · exact H.out.rO
      · exact H.out.ap b hb
    refine ⟨by simp, p, F, Fr, ⟨?_, ?_, H.out.rO, H.out.ap, H.out.fit⟩, ?_, fun b hb => ?_⟩
    · exact (H.out.dk.mono hbX).keeps kT (fun h => hno _ h (.inl rfl)) (fun h => hno _ h (.inr (.inl rfl))) (fun b hb h => hno b h (.inr (.inr hb)))
    · exact hT
    · exact (Keeps.of_below hbX).trans (kT.mono (fun b hb => Or.inr hb))
    · rcases hb with h | h
      · exact .inl h
      · exact .inr (.inl h)

set_option maxRecDepth 100000 in
set_option maxHeartbeats 400000 in
theorem trim_arg {w : World} {r g base blocks head : Nat} {Fr : Nat → Prop} {rs : List Rc} (hR : Rk w r g base blocks head Fr rs) (x : Int) (hx : x < (head : Int) ∨ ((head + rs.length : Nat) : Int) < x) :
    Calls Try.prog 18 #[.pointer (some ⟨r, 0, none⟩), .int .i64 x] w fun e w' => e = .returned (.int .i64 1) ∧ Below w.heap.size w w' := by
  have hm := gMade_yes hR
  have hhd := head_yes hR
  have htl := tail_yes hR
  clear hR
  generalize head + rs.length = tl at *
  by_cases hlt : x < (head : Int)
  · go_enter Try.func18, Try.ntmps18
    go_wp2_with fail
    refine hm.mono ?_
    rintro e w' ⟨rfl, rfl⟩
    go_wp2_with fail
    refine hhd.mono ?_
    rintro e w' ⟨rfl, rfl⟩
    go_wp2_with fail
    go_ret
    exact ⟨rfl, Below.refl _ _⟩
  · have hgt : (tl : Int) < x := by rcases hx with h | h; exact absurd h hlt; exact h
    go_enter Try.func18, Try.ntmps18
    go_wp2_with fail
    refine hm.mono ?_
    rintro e w' ⟨rfl, rfl⟩
    go_wp2_with fail
    refine hhd.mono ?_
    rintro e w' ⟨rfl, rfl⟩
    go_wp2_with fail
    refine htl.mono ?_
    rintro e w' ⟨rfl, nd, rfl⟩
    go_wp2_with fail
    go_ret
    exact ⟨rfl, below_drewN (Below.refl _ _) _⟩

end Go.Proofs.Ytjhbljkoapbkfaa
