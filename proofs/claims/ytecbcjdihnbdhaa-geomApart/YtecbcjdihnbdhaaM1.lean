/- The bytes that are taken, as a map by blocks and bytes: what a look-up, a store and len do with it. -/
import Derived.Test.YtecbcjdihnbdhaaC7
import Derived.Maps.OwnSet
import Derived.DeepKeys4
set_option linter.unusedSimpArgs false
set_option linter.unusedVariables false
namespace Go.Proofs.Ytecbcjdihnbdhaa
open Go.RowKit Go.Attic Go.Maps

theorem row42 : (42 : TypeId) < Try.prog.types.size := of_decide_eq_true (by kernel_rfl)
theorem wide42 : (match Try.prog.underlying 42 with | some (.array _ _) | some (.struct _) => true | _ => false) = true := by kernel_rfl
theorem law42 : Keyed Try.prog 42 := Keyed.of_law (deep_law_laid Try.laidOut (m := 2) (by omega) row42 (by kernel_rfl) wide42)
theorem zero4 (w : World) : (zeroValue 4).run Try.prog w = .ok (.bool false) w := by kernel_rfl

/-- The key of the byte t, counted from the disk's begin. -/
def placeV (t : Int) : Value := .agg #[.int .i64 (t / 256), .int .i64 (t % 256)]

theorem placeV_inj {s t : Int} (h : placeV s = placeV t) : s = t := by
  unfold placeV at h
  simp at h
  omega

theorem key_some (a o : Int) (ha : (Lit.int .i64 a).wf = true) (ho : (Lit.int .i64 o).wf = true) : ∃ kl, keyOf Try.prog 42 (.agg #[.int .i64 a, .int .i64 o]) = some kl := by
  obtain ⟨m, hm⟩ : ∃ m, Try.prog.types.size = m + 1 := ⟨_, (Nat.succ_pred_eq_of_pos (show 0 < Try.prog.types.size from of_decide_eq_true (by kernel_rfl))).symm⟩
  have hk : Try.prog.keyType 42 = true := by kernel_rfl
  have hc : Try.prog.cellsOf 42 = 2 := by kernel_rfl
  have hc3 : Try.prog.cellsOf 3 = 1 := by kernel_rfl
  have hu : Try.prog.underlying 42 = some (.array 2 3) := by kernel_rfl
  have u3 := Try.underlying3
  have hf : (Value.agg #[.int .i64 a, .int .i64 o]).formed Try.prog 42 = true := by simp [Value.formed, hu, hc]
  unfold keyOf
  rw [hu]
  simp only [hk, hf, Bool.and_self, if_true, hm]
  unfold Program.keyLits
  rw [hu]
  simp [Value.cells, hc, hc3, Program.keyLits, u3, ha, ho, show List.range 2 = [0, 1] from rfl]

theorem wf64 {a : Int} (h0 : -9223372036854775808 ≤ a) (h1 : a ≤ 9223372036854775807) : (Lit.int .i64 a).wf = true := WalkArith.wf_i64 ⟨h0, h1⟩

def MpAt (w : World) (b n : Nat) (U : Int → Prop) : Prop :=
  ∃ D : DataW Unit, w.ownsMap Try.prog 42 (plainElem Try.prog 4) b n D ∧ Maps.size D = n ∧ ∀ t kl, keyOf Try.prog 42 (placeV t) = some kl → ¬ U t → Maps.has D kl = false

theorem MpAt.made (w : World) : MpAt (w.alloc (.map #[] 0)) w.heap.size 0 (fun _ => False) :=
  ⟨.map [], World.ownsMap_made w _ _ _, rfl, fun _ _ _ _ => rfl⟩

theorem MpAt.kept {w w' : World} {b n : Nat} {U : Int → Prop} {row : Option Nat} (h : MpAt w b n U) (hg : w.grownBy w' row) (hne : some b ≠ row) : MpAt w' b n U := by
  obtain ⟨D, h1, h2⟩ := h
  exact ⟨D, h1.kept hg hne, h2⟩

theorem MpAt.lt {w : World} {b n : Nat} {U : Int → Prop} (h : MpAt w b n U) : b < w.heap.size := by
  obtain ⟨D, h1, h2⟩ := h
  exact h1.lt

theorem MpAt.weak {w : World} {b n : Nat} {U V : Int → Prop} (h : MpAt w b n U) (hUV : ∀ t, U t → V t) : MpAt w b n V := by
  obtain ⟨D, h1, h2, h3⟩ := h
  exact ⟨D, h1, h2, fun t kl hk hV => h3 t kl hk (fun hu => hV (hUV t hu))⟩

theorem plainElem_bool_inv {v : Value} {x : Bool} {ps : List MemPlace} (h : plainElem (H := Unit) Try.prog 4 v = some (.lit (.bool x), ps)) : v = .bool x := by
  unfold plainElem at h
  rw [Try.underlying4] at h
  cases v <;> simp at h
  rw [h.1]

theorem place_eq {t A O : Int} (hA : A = t / 256) (hO : O = t % 256) : (Value.agg #[.int .i64 A, .int .i64 O]) = placeV t := by rw [hA, hO, placeV]

theorem MpAt.look {w : World} {b n : Nat} {U : Int → Prop} (h : MpAt w b n U) (t : Int) (ht : -1000000000 ≤ t ∧ t ≤ 1000000000) (hU : ¬ U t) : (Instr.lookup 41 (.map (some b)) (placeV t) false).run Try.prog w = .ok (.bool false) w := by
  obtain ⟨D, h1, h2, h3⟩ := h
  obtain ⟨kl, hkl⟩ := key_some (t / 256) (t % 256) (wf64 (by omega) (by omega)) (wf64 (by omega) (by omega))
  obtain ⟨v, ps, hr, hv⟩ := h1.lookup law42 Try.underlying41 (zero4 w) (plainElem_bool Try.underlying4 false) hkl
  rw [Maps.atKey_of_not_has (h3 t kl hkl hU)] at hv
  rw [plainElem_bool_inv hv] at hr
  exact hr

theorem MpAt.put {w : World} {b n : Nat} {U : Int → Prop} (h : MpAt w b n U) (t : Int) (ht : -1000000000 ≤ t ∧ t ≤ 1000000000) (hU : ¬ U t) (hn : n < 1000000000) :
    ∃ w', (Instr.mapUpdate 41 (.map (some b)) (placeV t) (.bool true)).run Try.prog w = .ok () w' ∧ MpAt w' b (n + 1) (fun s => U s ∨ s = t) ∧ w.grownBy w' (some b) := by
  obtain ⟨D, h1, h2, h3⟩ := h
  obtain ⟨kl, hkl⟩ := key_some (t / 256) (t % 256) (wf64 (by omega) (by omega)) (wf64 (by omega) (by omega))
  obtain ⟨w', hr, ho, hg⟩ := h1.update law42 Try.underlying41 (by unfold maxLen; omega) hkl (plainElem_bool Try.underlying4 true)
  refine ⟨w', hr, ⟨_, ho, ?_, ?_⟩, hg⟩
  · rw [Maps.size_put (h1.tidy law42), h3 t kl hkl hU, h2]
    rfl
  · intro s kl' hk' hs
    have hne : kl' ≠ kl := by
      intro e
      subst e
      exact hs (Or.inr (placeV_inj (law42.inj hk' hkl)))
    rw [Maps.has_put_other hne]
    exact h3 s kl' hk' (fun hu => hs (Or.inl hu))

theorem MpAt.len {w : World} {b n : Nat} {U : Int → Prop} (h : MpAt w b n U) (ty : TypeId) : (Builtin.len_ #[41] ty #[.map (some b)]).run Try.prog w = .ok (.int .i64 n) w := by
  obtain ⟨D, h1, h2, h3⟩ := h
  rw [h1.len Try.underlying41 ty, h2]

theorem wpList_put {w : World} {ops : Array Oper} {rest : List Oper} {o : Oper} {a : Act} {Q : Exit → Act → World → Prop}
    (hg : o.guard = none) (m x v : Operand) (hop : o.op = Op.mapUpdate 41 m x v) (b n : Nat) (U : Int → Prop) (t : Int) (h : MpAt w b n U) (ht : -1000000000 ≤ t ∧ t ≤ 1000000000) (hU : ¬ U t) (hn : n < 1000000000)
    (hm : a.eval m = .map (some b)) (hx : a.eval x = placeV t) (hv : a.eval v = .bool true)
    (hK : ∀ w', MpAt w' b (n + 1) (fun s => U s ∨ s = t) → w.grownBy w' (some b) → wpList Try.prog ops Q rest (a.put o.dst undef) w') :
    wpList Try.prog ops Q (o :: rest) a w := by
  refine wpList_plain hg fun K' hK' => ?_
  obtain ⟨w', hrun, r1, r2⟩ := h.put t ht hU hn
  unfold Oper.wp
  simp [execOp, hop, hm, hx, hv, hrun, Result.andThen]
  exact hK' _ _ (hK w' r1 r2)

theorem grown_refl (w : World) (r : Option Nat) : w.grownBy w r := ⟨rfl, rfl, rfl, Nat.le_refl _, fun _ _ _ => rfl⟩
theorem grown_trans {a b c : World} {r : Option Nat} (h : a.grownBy b r) (k : b.grownBy c r) : a.grownBy c r :=
  ⟨k.os.trans h.os, k.tape.trans h.tape, k.output.trans h.output, Nat.le_trans h.size k.size, fun i hi hr => (k.block i (Nat.lt_of_lt_of_le hi h.size) hr).trans (h.block i hi hr)⟩
theorem grown_below {a b : World} (h : Below a.heap.size a b) (r : Option Nat) : a.grownBy b r := ⟨h.os, h.tape, h.output, h.size, fun i hi _ => h.block i hi⟩

theorem GeoAt.grown {w w' : World} {g m : Nat} {b l d x : Int} (h : GeoAt w g b l d x) (hg : w.grownBy w' (some m)) (hne : g ≠ m) : GeoAt w' g b l d x := by
  have hb : w'.heap[g]? = w.heap[g]? := hg.block g h.lt (by simpa using hne)
  obtain ⟨c0, c1, c2, c3, f0, f1, f2, f3, lt⟩ := h
  refine ⟨?_, ?_, ?_, ?_, ?_, ?_, ?_, ?_, Nat.lt_of_lt_of_le lt hg.size⟩
  all_goals first
    | (rw [World.cell?_of_block (by exact hb)]; assumption)
    | (rw [World.frozen?_of_block (by exact hb)]; assumption)

theorem PlanAt.grown {w w' : World} {g m : Nat} {a0 a1 a2 a3 a4 a5 : Int} (h : PlanAt w g a0 a1 a2 a3 a4 a5) (hg : w.grownBy w' (some m)) (hne : g ≠ m) : PlanAt w' g a0 a1 a2 a3 a4 a5 := by
  have hb : w'.heap[g]? = w.heap[g]? := hg.block g h.lt (by simpa using hne)
  obtain ⟨c0, c1, c2, c3, c4, c5, f0, f1, f2, f3, f4, f5, lt⟩ := h
  refine ⟨?_, ?_, ?_, ?_, ?_, ?_, ?_, ?_, ?_, ?_, ?_, ?_, Nat.lt_of_lt_of_le lt hg.size⟩
  all_goals first
    | (rw [World.cell?_of_block (by exact hb)]; assumption)
    | (rw [World.frozen?_of_block (by exact hb)]; assumption)

theorem cell_grown {w w' : World} {g j m : Nat} {v : Value} (h : w.cell? ⟨g, j, none⟩ = some v) (hg : w.grownBy w' (some m)) (hne : g ≠ m) : w'.cell? ⟨g, j, none⟩ = some v := by
  have hlt := World.block_lt_of_cell? w _ h
  rw [World.cell?_of_block (w := w) (by exact hg.block g hlt (by simpa using hne))]
  exact h

end Go.Proofs.Ytecbcjdihnbdhaa
