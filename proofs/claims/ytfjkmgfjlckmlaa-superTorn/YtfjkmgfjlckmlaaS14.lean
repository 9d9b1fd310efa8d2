/- A torn write over the other slot: what the mixed block is, and which super counts. -/
import Derived.Test.YtfjkmgfjlckmlaaS13
set_option linter.unusedSimpArgs false
set_option linter.unusedVariables false
namespace Go.Proofs.Ytfjkmgfjlckmlaa
open Go.RowKit Go.Attic

/-- The bytes behind k rounds: those of the sectors that were picked are the new ones. -/
def mixK (pick : Nat) (nx o : List Nat) (k : Nat) : List Nat := (List.range 256).map fun j => if j < k ∧ pick / 2 ^ (j / 64) % 2 = 1 then nx.getD j 0 else o.getD j 0
theorem mixK_length (pick : Nat) (nx o : List Nat) (k : Nat) : (mixK pick nx o k).length = 256 := by simp [mixK]
theorem mixK_getD (pick : Nat) (nx o : List Nat) (k j : Nat) (h : j < 256) : (mixK pick nx o k).getD j 0 = if j < k ∧ pick / 2 ^ (j / 64) % 2 = 1 then nx.getD j 0 else o.getD j 0 := by
  simp [mixK, List.getD, h]
theorem mixK_lt (pick : Nat) {nx o : List Nat} (h1 : ∀ x ∈ nx, x < 256) (h2 : ∀ x ∈ o, x < 256) (k : Nat) : ∀ x ∈ mixK pick nx o k, x < 256 := by
  intro x hx
  simp only [mixK, List.mem_map] at hx
  obtain ⟨j, _, rfl⟩ := hx
  split
  · exact getD_lt h1 j
  · exact getD_lt h2 j
theorem eq_getD {xs ys : List Nat} (hl : xs.length = ys.length) (h : ∀ j, j < xs.length → xs.getD j 0 = ys.getD j 0) : xs = ys := by
  apply List.ext_getElem hl
  intro i h1 h2
  have := h i h1
  simpa [List.getD_eq_getElem?_getD, h1, h2] using this
theorem mixK_zero (pick : Nat) (nx o : List Nat) (h : o.length = 256) : mixK pick nx o 0 = o := by
  apply eq_getD (by rw [mixK_length, h])
  intro j hj
  rw [mixK_length] at hj
  rw [mixK_getD _ _ _ _ _ hj, if_neg (by omega)]
theorem mixK_yes (pick : Nat) (nx o : List Nat) (k : Nat) (hk : k < 256) (h : pick / 2 ^ (k / 64) % 2 = 1) : (mixK pick nx o k).set k (nx.getD k 0) = mixK pick nx o (k + 1) := by
  apply eq_getD (by rw [List.length_set, mixK_length, mixK_length])
  intro j hj
  rw [List.length_set, mixK_length] at hj
  rw [mixK_getD _ _ _ _ _ hj]
  by_cases e : j = k
  · subst e
    rw [if_pos ⟨by omega, h⟩]
    simp [List.getD, List.getElem?_set, mixK_length, hj]
  · have e2 : ((mixK pick nx o k).set k (nx.getD k 0)).getD j 0 = (mixK pick nx o k).getD j 0 := by
      simp only [List.getD_eq_getElem?_getD]
      rw [List.getElem?_set_ne (Ne.symm e)]
    rw [e2, mixK_getD _ _ _ _ _ hj]
    by_cases hb : pick / 2 ^ (j / 64) % 2 = 1
    · by_cases hj2 : j < k
      · rw [if_pos ⟨hj2, hb⟩, if_pos ⟨by omega, hb⟩]
      · rw [if_neg (fun c => hj2 c.1), if_neg (fun c => by omega)]
    · rw [if_neg (fun c => hb c.2), if_neg (fun c => hb c.2)]
theorem mixK_no (pick : Nat) (nx o : List Nat) (k : Nat) (h : ¬ pick / 2 ^ (k / 64) % 2 = 1) : mixK pick nx o k = mixK pick nx o (k + 1) := by
  apply eq_getD (by rw [mixK_length, mixK_length])
  intro j hj
  rw [mixK_length] at hj
  rw [mixK_getD _ _ _ _ _ hj, mixK_getD _ _ _ _ _ hj]
  by_cases hb : pick / 2 ^ (j / 64) % 2 = 1
  · by_cases hj2 : j < k
    · rw [if_pos ⟨hj2, hb⟩, if_pos ⟨by omega, hb⟩]
    · rw [if_neg (fun c => hj2 c.1), if_neg (fun c => by
        have : j ≠ k := fun e => h (e ▸ hb)
        omega)]
  · rw [if_neg (fun c => hb c.2), if_neg (fun c => hb c.2)]

/-- A block whose bytes behind the first sector are noughts. -/
def Head1 (o : List Nat) : Prop := o.length = 256 ∧ ∀ j, 64 ≤ j → o.getD j 0 = 0
theorem head_block (ep b l d x h : Nat) : Head1 (blockL ep b l d x h) := by
  refine ⟨blockL_length _ _ _ _ _ _, fun j hj => ?_⟩
  unfold blockL
  rw [List.getD_eq_getElem?_getD, List.getElem?_append_right (by rw [sealN_length, sumdL_length]; exact hj), sealN_length, sumdL_length]
  unfold zerosL
  rw [List.getElem?_replicate]
  split <;> rfl
theorem head_zeros : Head1 (zerosL 256) := by
  refine ⟨zerosL_length _, fun j hj => ?_⟩
  unfold zerosL
  rw [List.getD_eq_getElem?_getD, List.getElem?_replicate]
  split <;> rfl
theorem mixK_all (pick : Nat) {nx o : List Nat} (h1 : Head1 nx) (h2 : Head1 o) : mixK pick nx o 256 = if pick % 2 = 1 then nx else o := by
  have key : ∀ j, j < 256 → (mixK pick nx o 256).getD j 0 = if pick % 2 = 1 then nx.getD j 0 else o.getD j 0 := by
    intro j hj
    rw [mixK_getD _ _ _ _ _ hj]
    by_cases hs : j < 64
    · have e : j / 64 = 0 := by omega
      rw [e, Nat.pow_zero, Nat.div_one]
      by_cases hp : pick % 2 = 1
      · rw [if_pos ⟨hj, hp⟩, if_pos hp]
      · rw [if_neg (fun c => hp c.2), if_neg hp]
    · rw [h1.2 j (by omega), h2.2 j (by omega)]
      split <;> split <;> rfl
  by_cases hp : pick % 2 = 1
  · rw [if_pos hp]
    apply eq_getD (by rw [mixK_length, h1.1])
    intro j hj
    rw [mixK_length] at hj
    rw [key j hj, if_pos hp]
  · rw [if_neg hp]
    apply eq_getD (by rw [mixK_length, h2.1])
    intro j hj
    rw [mixK_length] at hj
    rw [key j hj, if_neg hp]

theorem noS_zeros : NoS (zerosL 256) := by
  intro ep b l d x h k
  have e := congrArg (fun l : List Nat => l.getD 0 0) k.2
  have e1 : (zerosL 256).getD 0 0 = 0 := rfl
  have e2 : (blockL ep b l d x h).getD 0 0 = 97 := by
    rw [blockL_form]
    rfl
  simp only [e1, e2] at e
  omega

theorem slotS_nat (n : Nat) : slotS (n : Int) = (n : Int) % 2 := if_neg (by omega)

/-- Which super counts: own in its slot, o in the other one. -/
def Counts (own o : List Nat) (ep c0 : Nat) (ch : Nat) (b l d x : Nat) : Prop :=
  (slotS (ep : Int) = 0 → ∀ (v u : Value) (w : World), Bs w v own → Bs w u o → Calls Try.prog 23 #[v, u] w fun e w' => e = .returned (.tuple #[.agg #[.int .i64 (c0 : Nat), .int .i64 (b : Nat), .int .i64 (l : Nat), .int .i64 (d : Nat), .int .i64 (x : Nat), .int .i64 (ch : Nat)], .int .i64 0]) ∧ Below w.heap.size w w') ∧
  (slotS (ep : Int) = 1 → ∀ (v u : Value) (w : World), Bs w v o → Bs w u own → Calls Try.prog 23 #[v, u] w fun e w' => e = .returned (.tuple #[.agg #[.int .i64 (c0 : Nat), .int .i64 (b : Nat), .int .i64 (l : Nat), .int .i64 (d : Nat), .int .i64 (x : Nat), .int .i64 (ch : Nat)], .int .i64 0]) ∧ Below w.heap.size w w')

theorem par_is {L : List Nat} {ep b l d x h : Nat} (k : IsS L ep b l d x h) : Par L ep b l d x h 0 := .inl ⟨ep, b, l, d, x, h, k, rfl, rfl, rfl, rfl, rfl, rfl, rfl⟩

/-- Over the other slot: the next one counts. -/
theorem counts_next {ep b l d x h hd : Nat} (k : okS ep b l d x h) (k2 : okS ((ep + 1 : Nat) : Int) b l d x hd) : Counts (blockL ep b l d x h) (blockL (ep + 1) b l d x hd) ep (ep + 1) hd b l d x := by
  have r := okS_range k
  have p1 := par_is (L := blockL ep b l d x h) ⟨k, rfl⟩
  have p2 := par_is (L := blockL (ep + 1) b l d x hd) ⟨k2, rfl⟩
  have l1 : (blockL ep b l d x h).length ≤ 140737488355328 := by rw [blockL_length]; omega
  have l2 : (blockL (ep + 1) b l d x hd).length ≤ 140737488355328 := by rw [blockL_length]; omega
  have s1 := slotS_nat ep
  have s2 := slotS_nat (ep + 1)
  refine ⟨fun hs v u w hv hu => ?_, fun hs v u w hv hu => ?_⟩
  · exact choose_b v u _ _ w hv hu _ _ _ _ _ _ _ _ _ _ _ _ (fun w hv => stand_in p1 0 rfl hs v l1 w hv) (fun w hu => stand_in p2 1 rfl (by omega) u l2 w hu) (by omega) (by omega)
  · exact choose_a v u _ _ w hv hu _ _ _ _ _ _ _ _ _ _ _ _ (fun w hv => stand_in p2 0 rfl (by omega) v l2 w hv) (fun w hu => stand_in p1 1 rfl hs u l1 w hu) (by omega) (by omega)

/-- Noughts in the other slot: the old one counts. -/
theorem counts_zeros {ep b l d x h : Nat} (k : okS ep b l d x h) : Counts (blockL ep b l d x h) (zerosL 256) ep ep h b l d x := by
  have r := okS_range k
  have p1 := par_is (L := blockL ep b l d x h) ⟨k, rfl⟩
  have p2 : Par (zerosL 256) 0 0 0 0 0 0 50 := .inr ⟨noS_zeros, rfl, rfl, rfl, rfl, rfl, rfl, rfl⟩
  have l1 : (blockL ep b l d x h).length ≤ 140737488355328 := by rw [blockL_length]; omega
  have l2 : (zerosL 256).length ≤ 140737488355328 := by rw [zerosL_length]; omega
  refine ⟨fun hs v u w hv hu => ?_, fun hs v u w hv hu => ?_⟩
  · exact choose_a v u _ _ w hv hu _ _ _ _ _ _ _ _ _ _ _ _ (fun w hv => stand_in p1 0 rfl hs v l1 w hv) (fun w hu => stand_out p2 1 (by omega) u l2 w hu) (by omega) (by omega)
  · exact choose_b v u _ _ w hv hu _ _ _ _ _ _ _ _ _ _ _ _ (fun w hv => stand_out p2 0 (by omega) v l2 w hv) (fun w hu => stand_in p1 1 rfl hs u l1 w hu) (by omega) (by omega)

/-- The one before in the other slot: the old one counts. -/
theorem counts_ahead {ep b l d x h : Nat} (k : okS ((ep + 1 : Nat) : Int) b l d x h) (k2 : okS ep b l d x h) : Counts (blockL (ep + 1) b l d x h) (blockL ep b l d x h) (ep + 1) (ep + 1) h b l d x := by
  have r := okS_range k2
  have p1 := par_is (L := blockL (ep + 1) b l d x h) ⟨k, rfl⟩
  have p2 := par_is (L := blockL ep b l d x h) ⟨k2, rfl⟩
  have l1 : (blockL (ep + 1) b l d x h).length ≤ 140737488355328 := by rw [blockL_length]; omega
  have l2 : (blockL ep b l d x h).length ≤ 140737488355328 := by rw [blockL_length]; omega
  have s1 := slotS_nat ep
  have s2 := slotS_nat (ep + 1)
  refine ⟨fun hs v u w hv hu => ?_, fun hs v u w hv hu => ?_⟩
  · exact choose_a v u _ _ w hv hu _ _ _ _ _ _ _ _ _ _ _ _ (fun w hv => stand_in p1 0 rfl hs v l1 w hv) (fun w hu => stand_in p2 1 rfl (by omega) u l2 w hu) (by omega) (by omega)
  · exact choose_b v u _ _ w hv hu _ _ _ _ _ _ _ _ _ _ _ _ (fun w hv => stand_in p2 0 rfl (by omega) v l2 w hv) (fun w hu => stand_in p1 1 rfl hs u l1 w hu) (by omega) (by omega)

end Go.Proofs.Ytfjkmgfjlckmlaa
