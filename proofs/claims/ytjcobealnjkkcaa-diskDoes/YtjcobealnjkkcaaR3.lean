/- Contracts: the document's own New and Of. -/
import Derived.Test.YtjcobealnjkkcaaR2
set_option linter.unusedSimpArgs false
set_option linter.unusedVariables false
namespace Go.Proofs.Ytjcobealnjkkcaa
open Go.RowKit Go.Attic

/-- A new disk of the document, its blocks L. -/
structure Mc (w w' : World) (n : Nat) (L : Nat → List Nat) (v : Value) (vs : List Value) : Prop where
  cells : w'.heap[w.heap.size]? = some (.cells #[v, .slice none 0 0, .bool false, .int .i64 0, .int .i64 0, .slice none 0 0] 71 (0, 0))
  row : w'.ownsRow (w.heap.size + 1) 31 1 v n vs
  own : ∀ i (hv : i < vs.length), ∃ c, vs[i] = .slice (some ⟨c, 0, none⟩) 256 256 ∧ w'.ownsRow (w.heap.size + 1) 5 1 vs[i] 256 (cellsB (L i))
  apart : ∀ i j (hi : i < vs.length) (hj : j < vs.length), vs[i].ownBlock = vs[j].ownBlock → i = j
  bel : Below w.heap.size w w'

theorem Mk.mc {w w' : World} {n : Nat} {v : Value} {vs : List Value} (h : Mk w w' n v vs) : Mc w w' n (fun _ => List.replicate 256 0) v vs := ⟨h.cells, h.row, h.own, h.apart, h.bel⟩

theorem Mc.dr {w w' : World} {n : Nat} {L : Nat → List Nat} {v : Value} {vs : List Value} {l : List Nat} (h : Mc w w' n L v vs) (hL : ∀ i, i < n → L i = blockL l i) (hok : (ofS l).Ok n) :
    Dr w' w.heap.size v.ownBlock none (fun k => w.heap.size + 1 ≤ k ∧ k < w'.heap.size) n (ofS l) := by
  have hgl : w.heap.size < w'.heap.size := (Array.getElem?_eq_some_iff.1 h.cells).1
  have hvl : vs.length = n := by have := h.row.1; omega
  have fr : ∀ i, w'.frozen? ⟨w.heap.size, i, none⟩ = false := fun i => by simp [World.frozen?, h.cells]
  refine ⟨⟨v, vs, by simp [World.cell?, h.cells], ⟨owns_base h.row (Nat.zero_le _), rfl, fun i hv => ?_⟩⟩, ⟨.slice none 0 0, [], by simp [World.cell?, h.cells], ⟨World.ownsRow_nil _ _ _ _, rfl, rfl, by simp, by simp [ofS]⟩, by simp⟩, by simp [World.cell?, h.cells, ofS], by simp [World.cell?, h.cells, ofS], by simp [World.cell?, h.cells, ofS],
    ⟨.slice none 0 0, [], by simp [World.cell?, h.cells], Bs.nil _, by simp [ofS], by simp, by simp [Value.ownBlock]⟩, fr 0, fr 1, fr 2, fr 3, fr 4, fr 5, fun b hb => ⟨⟨(h.row.lt b hb).1, (h.row.lt b hb).2⟩, by simp⟩, by omega, fun k hk => hk.2, hok⟩
  obtain ⟨c, e1, e2⟩ := h.own i hv
  have hlt := hok.lt
  rw [hL i (by omega)] at e2
  refine ⟨Bs.of_owns e2 (blockL_lt hlt i), fun b hb => ⟨⟨(e2.lt b hb).1, (e2.lt b hb).2⟩, by simp, fun e => ?_⟩⟩
  rcases owns_ne e2 h.row (by decide) with hh | hh
  · rw [hh] at hb; cases hb
  · exact hh (hb.trans e.symm)

/-- What a call that makes the document's disk leaves. -/
def NewDr (w : World) (n : Nat) (s : St) (e : Ending) (w' : World) : Prop :=
  ∃ g q F, e = .returned (.tuple #[.pointer (some ⟨g, 0, none⟩), .int .i64 0]) ∧ Dr w' g q none F n s ∧ Below w.heap.size w w' ∧ w.heap.size ≤ g ∧ ∀ k, F k → w.heap.size ≤ k

theorem rnew_yes (n : Nat) (w : World) (h1 : 1 ≤ n) (h2 : n ≤ 2048) : Calls Try.prog 10 #[.int .i64 (n : Int)] w (NewDr w n (newS n)) := by
  refine (rnew_mk n w h1 h2).mono ?_
  rintro e w' ⟨rfl, v, vs, hM⟩
  refine ⟨_, _, _, rfl, hM.mc.dr (l := List.replicate (n * 256) 0) (fun i hi => ?_) (ofS_ok (by rw [List.length_replicate]; omega) h1 h2 (fun x hx => by rw [List.eq_of_mem_replicate hx]; omega)), hM.bel, Nat.le_refl _, fun k hk => by have := hk.1; omega⟩
  refine ext_getD ?_ fun j hj => ?_
  · rw [List.length_replicate, blockL_len _ _ n hi (by rw [List.length_replicate]; omega)]
  · rw [List.length_replicate] at hj
    simp only [blockL, List.getD_eq_getElem?_getD, List.getElem?_replicate, List.getElem?_take, List.getElem?_drop, hj, if_true]
    rw [if_pos (by omega)]

set_option maxRecDepth 100000 in
set_option maxHeartbeats 2000000 in
theorem rof_yes (n : Nat) (vi : Value) (l : List Nat) (w : World) (hv : Bs w vi l) (hl : l.length = n * 256) (h1 : 1 ≤ n) (h2 : n ≤ 2048) : Calls Try.prog 20 #[vi] w (NewDr w n (ofS l)) := by
  have hinf : (Try.prog.info? 5).map (·.size) = some 1 := by kernel_rfl
  have hv' := hv
  obtain ⟨ao, vcap, rfl, hvc, _, hvx, hcell⟩ := hv
  obtain ⟨ib, ioff, rfl, hcel⟩ := hcell (by omega)
  have hib : ib < w.heap.size := by have := World.block_lt_of_cell? w _ (hcel 0 (by omega)); simpa using this
  have e1 : ((n : Int) * 256) % 256 = 0 := by omega
  have e2 : ((n : Int) * 256) / 256 = n := by omega
  have Hl := hide hl
  have Hcel := hide hcel
  rw [hl] at hvc ⊢
  clear hcell hl hcel hv'
  go_enter Try.func20, Try.ntmps20
  go_wp2_with fail
  refine (rnew_mk n w h1 h2).mono ?_
  rintro e w1 ⟨rfl, v, vs, hM⟩
  obtain ⟨bao, bcap, rfl, _, hgq⟩ := owns_form hM.row
  obtain ⟨bq, rfl, _⟩ := hgq (by omega)
  have hvl : vs.length = n := by have := hM.row.1; omega
  have hM0 : Mc w w1 n (fun i => if i < 0 then blockL l i else List.replicate 256 0) (.slice (some ⟨bq, 0, none⟩) n bcap) vs := by simpa using hM.mc
  have Hvl := hide hvl
  clear hM hgq hvl
  go_wp2_with fail
  go_loopw [6] (fun i wr => ∃ k : Nat, k ≤ n ∧ i = .int .i64 k ∧ Mc w wr n (fun i => if i < k then blockL l i else List.replicate 256 0) (.slice (some ⟨bq, 0, none⟩) n bcap) vs) (fun i _ => n - (intOf i).toNat)
  case atStart => exact ⟨0, by omega, rfl, hM0⟩
  case round =>
    obtain ⟨k, hk, rfl, hM⟩ := hrel
    clear hM0
    have c0 : wr.cell? ⟨w.heap.size, 0, none⟩ = some (.slice (some ⟨bq, 0, none⟩) n bcap) := by simp [World.cell?, hM.cells]
    by_cases hkn : k < n
    · have hkv : k < vs.length := by have := Hvl.out; omega
      obtain ⟨c, ec, oc⟩ := hM.own k hkv
      have cq := hM.row.cells (g := bq) rfl k vs[k] (List.getElem?_eq_getElem hkv)
      rw [Addr.add_lit, Nat.zero_add, ec] at cq
      rw [ec] at oc
      rw [if_neg (Nat.lt_irrefl k)] at oc
      have hbl := blockL_len l k n hkn (by rw [Hl.out]; omega)
      have hsrc : ∀ j u, (cellsB (blockL l k))[j]? = some u → wr.drew.cell? ((⟨ib, ioff + k * 256, none⟩ : Addr).add j) = some u := by
        intro j u hj
        have hjl : j < 256 := by have := (List.getElem?_eq_some_iff.1 hj).1; rw [cellsB_length, hbl] at this; exact this
        have q := (Keeps.of_below (S := fun k => w.heap.size ≤ k) (show Below w.heap.size w wr from hM.bel)).cell (Hcel.out (k * 256 + j) (by rw [Hl.out]; omega)) (by simp; omega)
        rw [Addr.add_lit, Nat.add_assoc]
        refine Eq.trans q ?_
        rw [← hj]
        have hj2 : k * 256 + j < l.length := by rw [Hl.out]; omega
        simp [cellsB, blockL, List.getElem?_take, hjl, List.getElem?_drop, List.getD_eq_getElem?_getD, Nat.mul_comm 256 k, hj2]
      have hcl : (cellsB (blockL l k)).length = Nat.min (n * 256 - k * 256) 256 := by rw [cellsB_length, hbl]; show 256 = min (n * 256 - k * 256) 256; omega
      have hfit : 0 + (cellsB (blockL l k)).length ≤ 256 := by rw [cellsB_length, hbl]; omega
      have oc' := owns_base (World.ownsRow.drew oc) (Nat.zero_le _)
      have hki : (k : Int) * 256 ≤ (n : Int) * 256 := by omega
      have hnk : ¬ (vcap = k * 256) := by omega
      have hki2 : (k : Int) * 256 ≤ (vcap : Int) := by omega
      have hki3 : k * 256 ≤ n * 256 := by omega
      have hwr : IntKind.i64.wrap ((k : Int) * 256) = (k : Int) * 256 := by rw [IntKind.wrap_i64]; omega
      have hk0 : (0 : Int) ≤ (k : Int) * 256 := by omega
      have htn : ((k : Int) * 256).toNat = k * 256 := by omega
      have HM := hide hM
      have Hbl := hide hbl
      have S0 : wr.drew.cell? ⟨w.heap.size, 0, none⟩ = some (.slice (some ⟨bq, 0, none⟩) n bcap) ∧ wr.drew.cell? ⟨bq, k, none⟩ = some (.slice (some ⟨c, 0, none⟩) 256 256) := ⟨c0, cq⟩
      have hcne : w.heap.size ≠ c ∧ bq ≠ c := by
        have h3 := (hM.own k hkv).choose_spec.2
        refine ⟨fun e => ?_, fun e => ?_⟩
        · have := (oc.lt c rfl).1; omega
        · rcases owns_ne oc hM.row (by decide) with hh | hh
          · cases hh
          · exact hh (by rw [e]; rfl)
      clear hM oc hbl
      go_wp2_with fail
      go_region_held3 (fun w' => w'.cell? ⟨w.heap.size, 0, none⟩ = some (.slice (some ⟨bq, 0, none⟩) n bcap) ∧ w'.cell? ⟨bq, k, none⟩ = some (.slice (some ⟨c, 0, none⟩) 256 256))
        (first | exact S0 | exact ⟨k2.cell S0.1 hcne.1, k2.cell S0.2 hcne.2⟩)
        (first
          | (refine step_copy_own rfl (.tmp 36) (.tmp 40) 31 31 rfl 5 Try.underlying31 hinf c 0 256 256 ⟨ib, ioff + k * 256, none⟩ (n * 256 - k * 256) (vcap - k * 256) rfl rfl 256 256 _ oc' (cellsB (blockL l k)) hcl hsrc hfit (cellsB_oneCell _) ?_; intro w2 o2 k2))
      have hsp : splice (List.replicate 256 0) 0 (blockL l k) = blockL l k := by
        unfold splice
        rw [Nat.zero_add, Hbl.out, List.drop_eq_nil_of_le (by rw [List.length_replicate]; omega)]
        simp
      rw [cellsB_splice, hsp] at o2
      have hM2 : Mc w w2 n (fun i => if i < k + 1 then blockL l i else List.replicate 256 0) (.slice (some ⟨bq, 0, none⟩) n bcap) vs := by
        have kd := (Keeps.drew (S := fun j => j = c) wr).trans k2
        have hc1 : w.heap.size + 1 ≤ c := by have := ((HM.out.own k hkv).choose_spec.2.lt c (by rw [ec]; rfl)).1; exact this
        refine ⟨(kd.block w.heap.size (Array.getElem?_eq_some_iff.1 HM.out.cells).1 hcne.1).trans HM.out.cells, kd.owns HM.out.row (fun b hb e => hcne.2 (show bq = c from (show bq = b from (by simpa [Value.ownBlock] using hb)).trans e)), fun i hv => ?_, HM.out.apart, HM.out.bel.trans (kd.below (fun j hj => by have e' : j = c := hj; omega) HM.out.bel.size)⟩
        obtain ⟨ci, e3, e4⟩ := HM.out.own i hv
        by_cases hik : i = k
        · subst hik
          refine ⟨c, ec, ?_⟩
          rw [if_pos (Nat.lt_succ_self i), ec]
          refine ⟨o2.1, ?_⟩
          rcases o2.2 with ⟨hh, _⟩ | ⟨g1, c1, cur1, hv1, _, rest⟩
          · cases hh
          · have : c = g1 := by injection hv1 with hv1; injection hv1 with hv1; injection hv1
            exact .inr ⟨g1, c1, cur1, hv1, by omega, rest⟩
        · refine ⟨ci, e3, ?_⟩
          have hne : ∀ b, vs[i].ownBlock = some b → b ≠ c := fun b hb e => hik (HM.out.apart i k hv hkv (by rw [hb, ec, e]; rfl))
          have q := kd.owns e4 (fun b hb e => hne b hb e)
          by_cases h3 : i < k
          · rw [if_pos h3] at q
            rw [if_pos (by omega)]
            exact q
          · rw [if_neg h3] at q
            rw [if_neg (by omega)]
            exact q
      have HM2 := hide hM2
      clear hM2 o2 k2 S0 hsrc oc' c0 cq
      go_wp2_with fail
      go_roundw
      case rel => exact ⟨k + 1, by omega, by go_num, HM2.out⟩
      case measure => simp [intOf]; omega
    · obtain rfl : k = n := by omega
      have hD := hM.dr (l := l) (fun i hi => by rw [if_pos hi]) (ofS_ok (by rw [Hl.out]; omega) h1 h2 hvx)
      have HD := hide hD
      have hbl := hM.bel
      clear hM hD
      go_wp2_with fail
      go_ret2
      exact ⟨_, _, _, rfl, HD.out, hbl, Nat.le_refl _, fun k hk => by have := hk.1; omega⟩

end Go.Proofs.Ytjcobealnjkkcaa
