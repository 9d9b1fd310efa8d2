/- The cache and its disk: where the disk turns, where a buffer becomes clean. -/
import Derived.Test.YtjcmmigbkhiplaaK9
import Derived.Test.YtjcmmigbkhiplaaCq
set_option linter.unusedSimpArgs false
set_option linter.unusedVariables false
namespace Go.Proofs.Ytjcmmigbkhiplaa
open Go.RowKit Go.Attic

section
variable {w w' : World} {c g : Nat} {S : Nat → Prop} {room n Q : Nat} {s s' : St} {m q : Nat} {B : List Bu} {F : Nat → Prop} {gm : Nat} {p : Option Nat} {Fd : Nat → Prop} {A : List En}

theorem CDx.dturn (h : CDx w c g S room n s m q B F gm p Fd) (ht : Turn w g gm Fd n s' w') :
    ∃ p' Fd' S', CDx w' c g S' room n s' m q B F gm p' Fd' ∧ Keeps S w w' ∧ ∀ k, S' k → S k ∨ w.heap.size ≤ k := by
  obtain ⟨p', Fd', hd', hk, hF⟩ := ht
  have hca : ∀ k, (k = c ∨ F k) → ¬ Own g gm Fd k := h.ap
  have hcl : ∀ k, (k = c ∨ F k) → k < w.heap.size := fun k hk' => h.lt k (h.inS k (.inl hk'))
  have hO : ∀ k, Own g gm Fd' k → Own g gm Fd k ∨ w.heap.size ≤ k := by
    rintro k (e | e | e)
    · exact .inl (.inl e)
    · exact .inl (.inr (.inl e))
    · exact (hF k e).imp (fun h1 => .inr (.inr h1)) id
  have hkS : Keeps S w w' := hk.mono (fun k hk' => h.inS k (.inr hk'))
  refine ⟨p', Fd', fun k => (k = c ∨ F k) ∨ Own g gm Fd' k, ⟨h.ca.keeps hk (hca c (.inl rfl)) (fun k hf => hca k (.inr hf)), h.asc, hd', ?_, fun k hk' => hk', ?_, h.few, h.r2⟩, hkS, ?_⟩
  · intro k hk' ho
    rcases hO k ho with h1 | h1
    · exact hca k hk' h1
    · have := hcl k hk'; omega
  · rintro k (e | e)
    · exact Nat.lt_of_lt_of_le (hcl k e) hk.size
    · exact hd'.ownLt k e
  · rintro k (e | e)
    · exact .inl (h.inS k (.inl e))
    · exact (hO k e).imp (fun h1 => h.inS k (.inr h1)) id

/-- One buffer turns, wherever it stands. -/
theorem Ca.updAt {B0 B1 : List Bu} {x x' : Bu} (h : Ca w c m g room q (B0 ++ x :: B1) F) (ei : x'.i = x.i) (ep : x'.p = x.p) (er : x'.r = x.r) (hk : Keeps (fun k => k = x.p ∨ k = x.r) w w') (hb : BufAt w' x') : Ca w' c m g room q (B0 ++ x' :: B1) F := by
  have hp : ∀ y : Bu, (B0 ++ y :: B1).Perm ((B0 ++ B1) ++ [y]) := fun y => by
    rw [List.append_assoc]
    exact List.Perm.append_left B0 (List.perm_append_comm (l₁ := [y]) (l₂ := B1))
  exact ((h.perm (hp x)).upd ei ep er hk hb).perm (hp x').symm

def markB (B : List Bu) (i : Nat) : List Bu := B.map fun y => if y.i = i then { y with d := false } else y
theorem markB_at {B0 B1 : List Bu} {x : Bu} (h : (B0 ++ x :: B1).Pairwise fun x y => x.i ≠ y.i) : markB (B0 ++ x :: B1) x.i = B0 ++ { x with d := false } :: B1 := by
  have h1 := List.pairwise_append.1 h
  have h2 := List.pairwise_cons.1 h1.2.1
  have e0 : B0.map (fun y => if y.i = x.i then { y with d := false } else y) = B0 := by
    conv => rhs; rw [← List.map_id B0]
    apply List.map_congr_left
    intro y hy
    rw [if_neg (h1.2.2 y hy x (by simp))]; rfl
  have e1 : B1.map (fun y => if y.i = x.i then { y with d := false } else y) = B1 := by
    conv => rhs; rw [← List.map_id B1]
    apply List.map_congr_left
    intro y hy
    rw [if_neg (fun e => h2.1 y hy e.symm)]; rfl
  unfold markB
  rw [List.map_append, List.map_cons, e0, e1, if_pos rfl]
theorem markB_en (B : List Bu) (i : Nat) : (markB B i).map Bu.en = markC (B.map Bu.en) (i : Int) := by
  unfold markB markC
  rw [List.map_map, List.map_map]
  apply List.map_congr_left
  intro y _
  simp only [Function.comp]
  by_cases e : y.i = i
  · rw [if_pos e, if_pos (by simp [Bu.en, e])]; rfl
  · rw [if_neg e, if_neg (by simp [Bu.en]; omega)]
theorem Asc.markB {B : List Bu} {q : Nat} (h : Asc B q) (i : Nat) : Asc (markB B i) q := by
  have ha : ∀ y : Bu, (if y.i = i then { y with d := false } else y).a = y.a := fun y => by split <;> rfl
  refine ⟨?_, fun y hy => ?_⟩
  · show ((B.map _).Pairwise _)
    rw [List.pairwise_map]
    exact h.1.imp (fun hlt => by rw [ha, ha]; exact hlt)
  · obtain ⟨z, hz, rfl⟩ := List.mem_map.1 hy
    rw [ha]; exact h.2 z hz

theorem CDx.mark (h : CDx w c g S room n s m q B F gm p Fd) {x : Bu} (hx : x ∈ B) : CDx (w.setCell ⟨x.p, 1, none⟩ (.bool false)) c g S room n s m q (markB B x.i) F gm p Fd := by
  have hin := h.ca.inF x hx
  have hb := h.ca.bu x hx
  have hd : ∀ k, Own g gm Fd k → ¬ k = x.p := fun k ho e => h.ap k (.inr (e ▸ hin.1)) ho
  have hk : Keeps (fun k => k = x.p) w (w.setCell ⟨x.p, 1, none⟩ (.bool false)) := Keeps.setCell (S := fun k => k = x.p) w rfl _
  obtain ⟨B0, B1, rfl⟩ := List.append_of_mem hx
  have hC := h.ca.updAt (x' := { x with d := false }) rfl rfl rfl (hk.mono (fun k e => .inl e)) (hb.marked false)
  rw [← markB_at h.ca.nodup] at hC
  exact ⟨hC, Asc.markB h.asc _, h.dk.keeps hk (hd _ (.inl rfl)) (hd _ (.inr (.inl rfl))) (fun k hf => hd _ (.inr (.inr hf))), h.ap, h.inS, fun k hk' => Nat.lt_of_lt_of_le (h.lt k hk') hk.size, by have := h.few; simpa [markB] using this, h.r2⟩

end

end Go.Proofs.Ytjcmmigbkhiplaa
