/- Contracts: slices.Clone of records, All. -/
import Derived.Test.YtgdlbfoihpdlhaaL3
set_option linter.unusedSimpArgs false
set_option linter.unusedVariables false
namespace Go.Proofs.Ytgdlbfoihpdlhaa
open Go.RowKit Go.Attic Go.Shelf
set_option maxRecDepth 100000 in
set_option maxHeartbeats 1000000 in
theorem cloneR_any {w : World} {p : Option Nat} {F : Nat → Prop} {v : Value} {rs : List Rc} {vs : List Value} (h : Rw w p F v rs vs) (hlen : rs.length ≤ 4096) :
    Calls Try.prog 28 #[v] w fun e w' => ∃ v', e = .returned v' ∧ w'.ownsRow w.heap.size 48 5 v' rs.length (cellsR rs vs) ∧ Below w.heap.size w w' := by
  obtain ⟨i0, hi, hz0, hz1, hz2⟩ := info_parts Try.info48
  have hrow := h.row
  have hcl := cellsR_length rs vs h.len
  have hone := cellsR_one rs vs h.slices
  rcases hrow.2 with ⟨rfl, h0⟩ | ⟨b, cap, cur, rfl, _, hg, hnc, hcm, hcs, htake⟩
  · have hps : rs = [] := List.eq_nil_of_length_eq_zero h0
    subst hps
    have hnil : ∀ w, (binOp .eql 22 (.slice none 0 0) (.slice none 0 0)).run Try.prog w = .ok (.bool true) w := fun w => Lib.run_eql_slice_nil (P := Try.prog) w 22 48 none 0 0 0 0 Try.underlying22
    clear h hrow hcl hone
    go_enter Try.func28, Try.ntmps28
    go_wp2
    go_ret
    exact ⟨_, rfl, by simpa [cellsR] using World.ownsRow_nil _ _ _ _, Below.refl _ _⟩
  · have hnil := fun w => Lib.run_eql_slice_nil (P := Try.prog) w 22 48 (some ⟨b, 0, none⟩) rs.length cap 0 0 Try.underlying22
    have hcells : ∀ j u, (cellsR rs vs)[j]? = some u → (w.alloc (.cells #[] 48)).cell? ((⟨b, 0, none⟩ : Addr).add j) = some u := fun j u hu => (Keeps.alloc (S := fun _ => False) w _).cell (hrow.cells (g := b) rfl j u hu) id
    clear hg htake hcs h hrow
    go_enter Try.func28, Try.ntmps28
    go_wp2_with (at_builtin; refine wpList_append_own _ rfl (.tmp 5) (.tmp 6) 22 rfl w.heap.size 48 i0 (.agg #[.int .i64 0, .int .i64 0, .int .i64 0, .slice none 0 0, .int .i64 0]) 5 56 Try.underlying22 hi hz0 hz1 hz2 rfl (by decide) _ 0 [] rfl (World.ownsRow_lit w #[] 0 (Nat.le_refl _) (by simp) (by simp)) ⟨b, 0, none⟩ rs.length cap (cellsR rs vs) rfl hcl hcells hone (by unfold maxLen; omega) (by omega) (by simp) ?_; intro v' w1 hown hgrow _)
    have hb : Below w.heap.size w w1 := ((Below.refl _ _).alloc (Nat.le_refl _) _).grown hgrow (by simp) (by intro k hk; have e : some w.heap.size = some k := hk; injection e with e; omega)
    rw [Nat.zero_add, List.nil_append] at hown
    go_ret
    exact ⟨_, rfl, hown, hb⟩


end Go.Proofs.Ytgdlbfoihpdlhaa
