/- Contract: slices.Delete of records from the first on. -/
import Derived.Test.YtjhbljkoapbkfaaGreatM24
set_option linter.unusedSimpArgs false
set_option linter.unusedVariables false

namespace Go.Proofs.YtjhbljkoapbkfaaGreat
open Go.RowKit Go.Attic Go.Shelf

theorem Tryz.zero52 (w : World) : (zeroValue 52).run Tryz.prog w = .ok (.agg #[.int .i64 0, .int .i64 0, .int .i64 0, .slice none 0 0, .int .i64 0]) w := by kernel_rfl

/-- clear of some records of a row: whatever stands there then, the others stand as they stood. -/
theorem run_clear_rec (w : World) (ty : TypeId) (b o n c : Nat) (cur : Array Value) (hg : w.heap[b]? = some (.cells cur 52 (0, 0))) (hfit : o + n * 5 ≤ cur.size) (hn : 0 < n) :
    ∃ zs : List Value, zs.length = n * 5 ∧ (Builtin.clear_ #[29] ty #[.slice (some ⟨b, o, none⟩) n c]).run Tryz.prog w = .ok (.tuple #[]) (w.setRow b (cur.toList.take o ++ zs ++ cur.toList.drop (o + n * 5)).toArray) := by
  have hl : (Builtin.zeroCells (Value.agg #[.int .i64 0, .int .i64 0, .int .i64 0, .slice none 0 0, .int .i64 0]).cells n).toList.length = n * 5 := by
    simp [Builtin.zeroCells, Value.cells]
  have h1 : ∀ v ∈ (Builtin.zeroCells (Value.agg #[.int .i64 0, .int .i64 0, .int .i64 0, .slice none 0 0, .int .i64 0]).cells n).toList, v.oneCell' = true := by
    intro v hv
    simp only [Builtin.zeroCells, Value.cells, Array.mem_toList_iff, Array.mem_map, Array.mem_range] at hv
    obtain ⟨i, _, rfl⟩ := hv
    have h5 : i % 5 = 0 ∨ i % 5 = 1 ∨ i % 5 = 2 ∨ i % 5 = 3 ∨ i % 5 = 4 := by omega
    rcases h5 with h5 | h5 | h5 | h5 | h5 <;> simp [h5, Value.oneCell']
  have hst := run_storeCells_at Tryz.prog b o 52 (Builtin.zeroCells (Value.agg #[.int .i64 0, .int .i64 0, .int .i64 0, .slice none 0 0, .int .i64 0]).cells n).toList 0 cur w hg (by rw [hl]; simpa using hfit) h1
  refine ⟨_, hl, ?_⟩
  obtain ⟨m, rfl⟩ : ∃ m, n = m + 1 := ⟨n - 1, by omega⟩
  rw [hl] at hst
  simp only [Nat.add_zero] at hst
  simp [Builtin.clear_, run_underlying Tryz.underlying29, Tryz.zero52, hst]

/-- append into a row's own room, as one step of a region that draws. -/
theorem step_append_fits {P : Program} {ops : Array Oper} {o : Oper} {a : Act} {w : World} {K : Act → World → Prop} {Q : Exit → Act → World → Prop} {E : Prop}
    (hgd : o.guard = none) (s x : Operand) (t : TypeId) (ho : o.op = .call { callee := .builtin .append, args := #[s, x], argTypes := #[t, t] })
    (base : Nat) (e : TypeId) (i : TypeInfo) (size : Nat) (ht : P.underlying t = some (.slice e)) (hi : P.info? e = some i) (hsize : i.size = size)
    (g n cap : Nat) (xs : List Value) (hs : a.eval s = .slice (some ⟨g, 0, none⟩) n cap) (hown : w.ownsRow base e size (.slice (some ⟨g, 0, none⟩) n cap) n xs)
    (ad : Addr) (m c : Nat) (news : List Value) (hx : a.eval x = .slice (some ad) m c) (hl : news.length = m * size) (hnews : ∀ j u, news[j]? = some u → w.cell? (ad.add j) = some u) (h1 : ∀ u ∈ news, u.oneCell' = true) (hroom : n + m ≤ cap)
    (h : ∀ w', w'.ownsRow base e size (.slice (some ⟨g, 0, none⟩) (n + m) cap) (n + m) (xs ++ news) → w.grownBy w' (some g) → K (a.put o.dst (.slice (some ⟨g, 0, none⟩) (n + m) cap)) w') :
    if Region.wanted o (yielded ops a.tmps) = true then Oper.wp P o a w K Q else E := by
  have hw : Region.wanted o (yielded ops a.tmps) = true := by simp [Region.wanted, hgd]
  rw [if_pos hw]
  obtain ⟨w', hr, h2, h3⟩ := run_append_fits (P := P) w base t o.type e i size ht hi hsize g n cap xs hown ad m c news hl hnews h1 hroom
  unfold Oper.wp
  simp [execOp, ho, resolve, invoke, builtin, hs, hx, hr, Result.andThen]
  exact h w' h2 h3

theorem cellsR_drop (rs : List Rc) (vs : List Value) (k : Nat) (hl : vs.length = rs.length) (hk : k ≤ rs.length) : cellsR (rs.drop k) (vs.drop k) = (cellsR rs vs).drop (k * 5) := by
  induction k generalizing rs vs with
  | zero => simp
  | succ k ih =>
    cases rs with
    | nil => simp at hk
    | cons r rs =>
      cases vs with
      | nil => simp at hl
      | cons v vs =>
        have e : cellsR (r :: rs) (v :: vs) = r.cells v ++ cellsR rs vs := by simp [cellsR]
        have this : (r.cells v ++ cellsR rs vs).drop 5 = cellsR rs vs := by simp [Rc.cells]
        have e2 : (r.cells v ++ cellsR rs vs).drop (5 + k * 5) = ((r.cells v ++ cellsR rs vs).drop 5).drop (k * 5) := by rw [List.drop_drop]
        rw [e, show (k + 1) * 5 = 5 + k * 5 by omega, e2, this]
        simpa using ih rs vs (by simpa using hl) (by simpa using hk)

set_option maxRecDepth 100000 in
set_option maxHeartbeats 1000000 in
theorem delete_0 {w : World} {p : Option Nat} {F : Nat → Prop} {v : Value} {rs : List Rc} {vs : List Value} (h : Rw w p F v rs vs) :
    Calls Tryz.prog 60 #[v, .int .i64 0, .int .i64 0] w fun e w' => e = .returned v ∧ w = w' := by
  obtain ⟨ao, cap, rfl, hc, -⟩ := owns_form h.row
  clear h
  go_enter Tryz.func60, Tryz.ntmps60
  go_wp2_with fail
  go_ret
  exact ⟨rfl, rfl⟩

theorem delete_fin {w : World} {p : Option Nat} {F : Nat → Prop} {rs : List Rc} {vs : List Value} {hb cap n k : Nat} (H : Hid (Rw w p F (.slice (some ⟨hb, 0, none⟩) rs.length cap) rs vs)) (Hn : Hid (rs.length = n)) (hp : p = some hb) (hk : k ≤ n) (hk0 : 0 < k) (hnc : n ≤ cap) (hcm : cap ≤ maxLen) :
    ∀ w2, w2.ownsRow 0 52 5 (.slice (some ⟨hb, 0, none⟩) (0 + (n - k)) cap) (0 + (n - k)) ([] ++ (cellsR rs vs).drop (k * 5)) → w.drew.grownBy w2 (some hb) → ∃ w3, (∀ ty, (Builtin.clear_ #[29] ty #[.slice (some ⟨hb, (n - k) * 5, none⟩) k (cap - (n - k))]).run Tryz.prog w2 = .ok (.tuple #[]) w3) ∧ Rw w3 p F (.slice (some ⟨hb, 0, none⟩) (n - k) cap) (rs.drop k) (vs.drop k) ∧ Keeps (fun b => p = some b) w w3 := by
  have hcl := cellsR_length rs vs H.out.len
  have hnl : ((cellsR rs vs).drop (k * 5)).length = (n - k) * 5 := by rw [List.length_drop, hcl, Hn.out]; omega
  intro w2 ho2 hg2
  rw [Nat.zero_add, List.nil_append] at ho2
  rcases ho2.2 with ⟨e, _⟩ | ⟨g2, cap2, cur2, e2, _, hgg2, hnc2, hcm2, hcs2, htake2⟩
  · cases e
  · injection e2 with e2 _ e3
    injection e2 with e2
    injection e2 with e2
    subst e2 e3
    have hk2 : Keeps (fun b => p = some b) w w2 := (Keeps.drew w).trans (Keeps.of_grown hg2 (fun b hb' => by rw [hp]; exact hb'))
    have hclr := fun ty => run_clear_rec w2 ty hb ((n - k) * 5) k (cap - (n - k)) cur2 hgg2 (by omega) hk0
    obtain ⟨zs, hzl, hz⟩ := hclr 0
    have hz' : ∀ ty, (Builtin.clear_ #[29] ty #[.slice (some ⟨hb, (n - k) * 5, none⟩) k (cap - (n - k))]).run Tryz.prog w2 = .ok (.tuple #[]) (w2.setRow hb (cur2.toList.take ((n - k) * 5) ++ zs ++ cur2.toList.drop ((n - k) * 5 + k * 5)).toArray) := fun ty => hz
    have k3 : Keeps (fun b => b = hb) w2 (w2.setRow hb (cur2.toList.take ((n - k) * 5) ++ zs ++ cur2.toList.drop ((n - k) * 5 + k * 5)).toArray) := Keeps.setRow (S := fun b => b = hb) w2 rfl _
    have hg3 := setRow_heap w2 hb cur2 (cur2.toList.take ((n - k) * 5) ++ zs ++ cur2.toList.drop ((n - k) * 5 + k * 5)).toArray 52 (0, 0) hgg2
    generalize w2.setRow hb (cur2.toList.take ((n - k) * 5) ++ zs ++ cur2.toList.drop ((n - k) * 5 + k * 5)).toArray = w3 at *
    have hk3 : Keeps (fun b => p = some b) w w3 := hk2.trans (k3.mono (fun b hb' => by have e : b = hb := hb'; rw [hp, e]))
    have hrl : (rs.drop k).length = n - k := by rw [List.length_drop, Hn.out]
    refine ⟨w3, hz', ⟨?_, H.out.own, by simp [H.out.len], H.out.pF, fun i hi hv => ?_⟩, hk3⟩
    · rw [hrl, cellsR_drop rs vs k H.out.len (by rw [Hn.out]; exact hk)]
      refine ⟨hnl, .inr ⟨hb, cap, _, rfl, Nat.zero_le _, hg3, by omega, hcm, ?_, ?_⟩⟩
      · simp only [List.size_toArray, List.length_append, List.length_take, List.length_drop, Array.length_toList, hzl, hcs2]
        omega
      · have hlt : (cur2.toList.take ((n - k) * 5)).length = (n - k) * 5 := by simp [hcs2]; omega
        simp only [List.append_assoc]
        rw [List.take_append_of_le_length (by omega), List.take_of_length_le (by omega)]
        exact htake2
    · have hik : k + i < rs.length := by rw [Hn.out]; rw [hrl] at hi; omega
      have hiv : k + i < vs.length := by rw [H.out.len]; exact hik
      obtain ⟨q1, q2⟩ := H.out.bs (k + i) hik hiv
      simp only [List.getElem_drop]
      exact ⟨keeps_bs hk3 q1 (fun hp' b hb' e => (q2 hp' b hb').2 e), q2⟩


set_option maxRecDepth 100000 in
set_option maxHeartbeats 1000000 in
theorem delete_some {w : World} {p : Option Nat} {F : Nat → Prop} {v : Value} {rs : List Rc} {vs : List Value} (h : Rw w p F v rs vs) (k : Nat) (hk : k ≤ rs.length) (hk0 : 0 < k) (hlen : rs.length ≤ 4096) :
    Calls Tryz.prog 60 #[v, .int .i64 0, .int .i64 (k : Int)] w fun e w' => ∃ v', e = .returned v' ∧ Rw w' p F v' (rs.drop k) (vs.drop k) ∧ Keeps (fun b => p = some b) w w' := by
  obtain ⟨i0, hi, hz0, hz1', hz2'⟩ := info_parts Tryz.info52
  have hrow := h.row
  rcases h.row.2 with ⟨rfl, h0⟩ | ⟨hb, cap, cur, rfl, _, hg, hnc, hcm, hcs, htake⟩
  · omega
  · obtain ⟨n, hn⟩ : ∃ n, rs.length = n := ⟨_, rfl⟩
    rw [hn] at hk hlen hnc hrow ⊢
    have hp : p = some hb := h.own.symm
    have H := hide h
    have Hn := hide hn
    have Htake := hide htake
    have Hrow := hide hrow
    have Hg := hide hg
    clear h hn htake hrow hg
    have hrowz : w.ownsRow 0 52 5 (.slice (some ⟨hb, 0, none⟩) 0 cap) 0 [] := ⟨rfl, .inr ⟨hb, cap, cur, rfl, Nat.zero_le _, Hg.out, Nat.zero_le _, hcm, hcs, by simp⟩⟩
    have hcl := cellsR_length rs vs H.out.len
    have hnl : ((cellsR rs vs).drop (k * 5)).length = (n - k) * 5 := by rw [List.length_drop, hcl, Hn.out]; omega
    have hone : ∀ u ∈ (cellsR rs vs).drop (k * 5), u.oneCell' = true := fun u hu => cellsR_one rs vs H.out.slices u (List.mem_of_mem_drop hu)
    have hcells : ∀ j u, (cellsR rs vs)[j]? = some u → w.drew.cell? ⟨hb, j, none⟩ = some u := fun j u hu => by
      have := Hrow.out.cells (g := hb) rfl j u hu
      rw [Addr.add_lit, Nat.zero_add] at this
      exact this
    have hnk : (((n - k : Nat) : Int)) = (n : Int) - (k : Int) := by omega
    have Hfin := hide (delete_fin H Hn hp hk hk0 hnc hcm)
    have Hone := hide hone
    have Hcells := hide hcells
    have Hnl := hide hnl
    have Hrowz := hide hrowz
    clear hone hcells hnl hrowz hcl
    by_cases hck : cap = k
    · obtain rfl : n = k := by omega
      subst hck
      go_enter Tryz.func60, Tryz.ntmps60
      go_wp2_with fail
      go_region_law (first
        | (refine step_append_fits rfl (.tmp 22) (.tmp 25) 29 rfl 0 52 i0 5 Tryz.underlying29 hi hz1' hb 0 cap [] rfl Hrowz.out ⟨hb, 0, none⟩ 0 0 [] rfl rfl (by simp) (by simp) (by omega) ?_; intro w2 ho2 hg2))
      have hnil : (cellsR rs vs).drop (cap * 5) = [] := List.eq_nil_of_length_eq_zero (by rw [Hnl.out]; omega)
      obtain ⟨w3, hclr, hRw, hKp⟩ := Hfin.out w2 (by rw [hnil]; simpa using ho2) hg2
      have hclr' : ∀ ty, (Builtin.clear_ #[29] ty #[.slice (some ⟨hb, 0, none⟩) cap cap]).run Tryz.prog w2 = .ok (.tuple #[]) w3 := by simpa using hclr
      rw [Nat.sub_self] at hRw
      have HRw := hide hRw
      clear hRw hclr hnil ho2
      go_wp2_with fail
      go_ret
      exact ⟨_, rfl, HRw.out, hKp⟩
    · have hck2 : k < cap := by omega
      obtain ⟨d, hd⟩ : ∃ d, n - k = d := ⟨_, rfl⟩
      have hck3 : ¬ k = cap := fun e => hck e.symm
      have Hnl2 := hide (show ((cellsR rs vs).drop (k * 5)).length = d * 5 by rw [Hnl.out, hd])
      have fin2 := Hfin.out
      rw [hd] at fin2
      have Hfin2 := hide fin2
      have hdc : 0 + d ≤ cap := by omega
      have Hnews : Hid (∀ j u, ((cellsR rs vs).drop (k * 5))[j]? = some u → w.drew.cell? ((⟨hb, k * 5, none⟩ : Addr).add j) = some u) := hide (fun j u hu => by
        rw [List.getElem?_drop] at hu
        rw [Addr.add_lit]
        exact Hcells.out _ _ hu)
      obtain ⟨ck, hcke⟩ : ∃ ck, cap - k = ck := ⟨_, rfl⟩
      obtain ⟨ko, hko⟩ : ∃ ko, k * 5 = ko := ⟨_, rfl⟩
      have hnews2 := Hnews.out
      have hnl2 := Hnl2.out
      have hone2 := Hone.out
      have fin3 := Hfin2.out
      rw [hko] at hnews2 hnl2 hone2 fin3
      generalize (cellsR rs vs).drop ko = nws at *
      have Hnews2 := hide hnews2
      have Hnl3 := hide hnl2
      have Hone2 := hide hone2
      have Hfin3 := hide fin3
      clear fin2 fin3 hnews2 hnl2 hone2 Hnews Hnl2 Hone Hfin2 Hnl Hfin Hcells
      go_enter Tryz.func60, Tryz.ntmps60
      go_wp2_with fail
      refine wp_region_noPanic ?_
      refine wp_region_held_drew (S := fun _ => True) (by kernel_rfl) trivial (fun hHeld => ?_)
      refine wpAnyH_take (i := 0) (oi := { dst := some 20, op := Op.move (Operand.tmp 0), type := 29, pos := _, after := #[], guard := none }) (v := .slice (some ⟨hb, 0, none⟩) n cap) rfl (by kernel_rfl) (by kernel_rfl) (by kernel_rfl) (fun _ _ _ h => h) (Or.inl ⟨by rfl, fun w' hw => by go_simp⟩) hHeld ?_
      simp only [Act.put, List.setIfInBounds_toArray, List.set_cons_zero, List.set_cons_succ]
      refine wpAnyH_take (i := 1) (oi := { dst := some 21, op := Op.move (Operand.tmp 1), type := 3, pos := _, after := #[], guard := none }) (v := .int .i64 0) rfl (by kernel_rfl) (by kernel_rfl) (by kernel_rfl) (fun _ _ _ h => h) (Or.inl ⟨by rfl, fun w' hw => by go_simp⟩) hHeld ?_
      simp only [Act.put, List.setIfInBounds_toArray, List.set_cons_zero, List.set_cons_succ]
      refine wpAnyH_take (i := 2) (oi := { dst := some 22, op := Op.slice 29 (Operand.tmp 20) none (some (Operand.tmp 21)) none, type := 29, pos := _, after := #[{ on := 0, ground := Ground.data }, { on := 1, ground := Ground.data }], guard := none }) (v := .slice (some ⟨hb, 0, none⟩) 0 cap) rfl (by kernel_rfl) (by kernel_rfl) (by kernel_rfl) (fun _ _ _ h => h) (Or.inl ⟨by rfl, fun w' hw => by go_simp⟩) hHeld ?_
      simp only [Act.put, List.setIfInBounds_toArray, List.set_cons_zero, List.set_cons_succ]
      refine wpAnyH_take (i := 3) (oi := { dst := some 23, op := Op.move (Operand.tmp 0), type := 29, pos := _, after := #[], guard := none }) (v := .slice (some ⟨hb, 0, none⟩) n cap) rfl (by kernel_rfl) (by kernel_rfl) (by kernel_rfl) (fun _ _ _ h => h) (Or.inl ⟨by rfl, fun w' hw => by go_simp⟩) hHeld ?_
      simp only [Act.put, List.setIfInBounds_toArray, List.set_cons_zero, List.set_cons_succ]
      refine wpAnyH_take (i := 4) (oi := { dst := some 24, op := Op.move (Operand.tmp 2), type := 3, pos := _, after := #[], guard := none }) (v := .int .i64 (k : Int)) rfl (by kernel_rfl) (by kernel_rfl) (by kernel_rfl) (fun _ _ _ h => h) (Or.inl ⟨by rfl, fun w' hw => by go_simp⟩) hHeld ?_
      simp only [Act.put, List.setIfInBounds_toArray, List.set_cons_zero, List.set_cons_succ]
      refine wpAnyH_take (i := 5) (oi := { dst := some 25, op := Op.slice 29 (Operand.tmp 23) (some (Operand.tmp 24)) none none, type := 29, pos := _, after := #[{ on := 3, ground := Ground.data }, { on := 4, ground := Ground.data }], guard := none }) (v := .slice (some ⟨hb, ko, none⟩) d ck) rfl (by kernel_rfl) (by kernel_rfl) (by kernel_rfl) (fun _ _ _ h => h) (Or.inl ⟨by rfl, fun w' hw => by go_simp⟩) hHeld ?_
      simp only [Act.put, List.setIfInBounds_toArray, List.set_cons_zero, List.set_cons_succ]
      refine wpAnyH_ready (rs := [6]) (by kernel_rfl) (by simp) ?_
      refine AllReadyH.cons (o := { dst := some 26, op := Op.call { callee := Callee.builtin Builtin.append, args := #[Operand.tmp 22, Operand.tmp 25], argTypes := #[29, 29] }, type := 29, pos := _, after := #[{ on := 2, ground := Ground.data }, { on := 5, ground := Ground.data }], guard := none }) rfl (fun K hK => ?_) AllReadyH.nil
      refine step_append_fits rfl (.tmp 22) (.tmp 25) 29 rfl 0 52 i0 5 Tryz.underlying29 hi hz1' hb 0 cap [] rfl Hrowz.out ⟨hb, ko, none⟩ d ck nws rfl Hnl3.out Hnews2.out Hone2.out hdc ?_
      intro w2 ho2 hg2
      refine hK.out _ _ trivial (fun _ => ?_)
      clear hK K
      simp only [Act.put, List.setIfInBounds_toArray, List.set_cons_zero, List.set_cons_succ]
      refine wpAnyH_take (i := 7) (oi := { dst := some 0, op := Op.assign (Operand.tmp 26), type := 29, pos := _, after := #[{ on := 6, ground := Ground.data }, { on := 6, ground := Ground.chain }, { on := 0, ground := Ground.phase }, { on := 1, ground := Ground.phase }, { on := 2, ground := Ground.phase }, { on := 3, ground := Ground.phase }, { on := 4, ground := Ground.phase }, { on := 5, ground := Ground.phase }, { on := 6, ground := Ground.phase }], guard := none }) (v := .slice (some ⟨hb, 0, none⟩) (0 + d) cap) rfl (by kernel_rfl) (by kernel_rfl) (by kernel_rfl) (fun _ _ _ h => h) (Or.inl ⟨by rfl, fun w' hw => by go_simp⟩) hHeld ?_
      simp only [Act.put, List.setIfInBounds_toArray, List.set_cons_zero, List.set_cons_succ]
      refine wpAnyH_done (by kernel_rfl) ?_ _
      refine NoPanic.normal ?_
      obtain ⟨w3, hclr, hRw, hKp⟩ := Hfin3.out w2 ho2 hg2
      have HRw := hide hRw
      have hdn : (d : Int) + (k : Int) = (n : Int) := by omega
      have hdk : n - d = k := by omega
      have hdn2 : d ≤ n := by omega
      have hdc2 : ¬ d = cap := by omega
      clear hRw ho2
      go_wp2_with fail
      go_ret
      exact ⟨_, rfl, by rw [Nat.zero_add]; exact HRw.out, hKp⟩

theorem delete_any {w : World} {p : Option Nat} {F : Nat → Prop} {v : Value} {rs : List Rc} {vs : List Value} (h : Rw w p F v rs vs) (k : Nat) (hk : k ≤ rs.length) (hlen : rs.length ≤ 4096) :
    Calls Tryz.prog 60 #[v, .int .i64 0, .int .i64 (k : Int)] w fun e w' => ∃ v', e = .returned v' ∧ Rw w' p F v' (rs.drop k) (vs.drop k) ∧ Keeps (fun b => p = some b) w w' := by
  rcases Nat.eq_zero_or_pos k with rfl | h0
  · exact (delete_0 h).mono (fun e w' hh => by
      obtain ⟨rfl, rfl⟩ := hh
      exact ⟨_, rfl, by simpa using h, Keeps.refl _ _⟩)
  · exact delete_some h k hk h0 hlen


end Go.Proofs.YtjhbljkoapbkfaaGreat
