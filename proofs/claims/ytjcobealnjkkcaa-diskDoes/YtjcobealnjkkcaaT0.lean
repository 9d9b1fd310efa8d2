/- A disk that is being made by Clone. -/
import Derived.Test.YtjcobealnjkkcaaS4
import Derived.Test.YtjcobealnjkkcaaH2
set_option linter.unusedSimpArgs false
set_option linter.unusedVariables false
namespace Go.Proofs.Ytjcobealnjkkcaa
open Go.RowKit Go.Attic Go.Shelf

/-- A disk that is being made, behind a variable. -/
structure Twin (w w2 : World) (V D : Nat) (v1 : Value) (s : St) : Prop where
  bel : Below w.heap.size w w2
  vb : Boxed w2 V 23 (.pointer (some ⟨D, 0, none⟩))
  dv : w2.heap[D]? = some (.cells #[v1, .slice none 0 0, .int .i64 0, .slice none 0 0, .int .i64 (s.ops : Int), .bool s.on] 63 (0, 0))
  V1 : w.heap.size ≤ V
  D1 : w.heap.size ≤ D
  o1 : w2.ownsRow w.heap.size 5 1 v1 s.med.length (cellsB s.med)

theorem twinA {w w1 : World} {B : Nat} {v1 : Value} {s : St} (hB : Below w.heap.size w w1) (ho : w1.ownsRow B 5 1 v1 s.med.length (cellsB s.med)) (hb : w.heap.size ≤ B) :
    Twin w ((w1.alloc (.cells #[v1, .slice none 0 0, .int .i64 0, .slice none 0 0, .int .i64 (s.ops : Int), .bool s.on] 63)).alloc (.cells #[.pointer (some ⟨w1.heap.size, 0, none⟩)] 23)) (w1.heap.size + 1) w1.heap.size v1 s := by
  have hz := hB.size
  refine ⟨(hB.alloc hz _).alloc (by simp; omega) _, ?_, ?_, by omega, hz, owns_base ((ho.alloc _).alloc _) hb⟩
  · have := Boxed.new (w1.alloc (.cells #[v1, .slice none 0 0, .int .i64 0, .slice none 0 0, .int .i64 (s.ops : Int), .bool s.on] 63)) 23 (.pointer (some ⟨w1.heap.size, 0, none⟩))
    simpa using this
  · exact (((Below.refl _ (w1.alloc (.cells #[v1, .slice none 0 0, .int .i64 0, .slice none 0 0, .int .i64 (s.ops : Int), .bool s.on] 63))).alloc (Nat.le_refl _) _).block _ (by simp)).trans (World.alloc_heap_new w1 _)

theorem twinB {w w1 : World} {B : Nat} {v1 : Value} {s : St} (hB : Below w.heap.size w w1) (ho : w1.ownsRow B 5 1 v1 s.med.length (cellsB s.med)) (hb : w.heap.size ≤ B) :
    Twin w ((w1.alloc (.cells #[.pointer (some ⟨w1.heap.size + 1, 0, none⟩)] 23)).alloc (.cells #[v1, .slice none 0 0, .int .i64 0, .slice none 0 0, .int .i64 (s.ops : Int), .bool s.on] 63)) w1.heap.size (w1.heap.size + 1) v1 s := by
  have hz := hB.size
  refine ⟨(hB.alloc hz _).alloc (by simp; omega) _, (Boxed.new w1 23 _).alloc _, ?_, hz, by omega, owns_base ((ho.alloc _).alloc _) hb⟩
  have := World.alloc_heap_new (w1.alloc (.cells #[.pointer (some ⟨w1.heap.size + 1, 0, none⟩)] 23)) (.cells #[v1, .slice none 0 0, .int .i64 0, .slice none 0 0, .int .i64 (s.ops : Int), .bool s.on] 63)
  simpa using this

theorem twinC {w w1 : World} {B : Nat} {v1 : Value} {s : St} (hB : Below w.heap.size w w1) (hbx : Boxed w1 w.heap.size 23 (.pointer none)) (ho : w1.ownsRow B 5 1 v1 s.med.length (cellsB s.med)) (hb : w.heap.size + 1 ≤ B) :
    Twin w ((w1.alloc (.cells #[v1, .slice none 0 0, .int .i64 0, .slice none 0 0, .int .i64 (s.ops : Int), .bool s.on] 63)).setCell ⟨w.heap.size, 0, none⟩ (.pointer (some ⟨w1.heap.size, 0, none⟩))) w.heap.size w1.heap.size v1 s := by
  have hz := hB.size
  have hl := hbx.lt
  have k := keeps_set (w1.alloc (.cells #[v1, .slice none 0 0, .int .i64 0, .slice none 0 0, .int .i64 (s.ops : Int), .bool s.on] 63)) w.heap.size 0 (.pointer (some ⟨w1.heap.size, 0, none⟩))
  refine ⟨(hB.alloc hz _).setCell (p := ⟨w.heap.size, 0, none⟩) (Nat.le_refl _) _, (hbx.alloc _).set _, ?_, Nat.le_refl _, hz, k.owns (owns_base (ho.alloc _) (by omega)) (fun b hb' e => by have := (ho.lt b hb').1; have e' : b = w.heap.size := e; omega)⟩
  exact (k.block w1.heap.size (by simp) (fun e => by have e' : w1.heap.size = w.heap.size := e; omega)).trans (World.alloc_heap_new w1 _)

/-- The disk that it is so far. -/
theorem Twin.dk {w w2 : World} {V D n : Nat} {v1 : Value} {s : St} (h : Twin w w2 V D v1 s) (hok : s.Ok n) :
    ∃ m cap, v1 = .slice (some ⟨m, 0, none⟩) s.med.length cap ∧ w.heap.size ≤ m ∧ Dk w2 D m none (fun _ => False) n { s with pend := [], left := 0, picks := [] } := by
  obtain ⟨ao, cap, rfl, _, hg⟩ := owns_form h.o1
  obtain ⟨m, rfl, hm⟩ := hg (by rw [hok.len]; have := hok.n1; omega)
  have hd := h.dv
  have ho := owns_base h.o1 (Nat.zero_le _)
  refine ⟨m, cap, rfl, hm, ⟨⟨cap, by simp [World.cell?, hd], ho⟩, ⟨.slice none 0 0, [], by simp [World.cell?, hd], ⟨by simpa [cellsW] using World.ownsRow_nil _ _ _ _, rfl, rfl, by simp, by simp⟩⟩, by simp [World.cell?, hd], ⟨.slice none 0 0, by simp [World.cell?, hd], Bs.nil _, by simp [Value.ownBlock]⟩, by simp [World.cell?, hd], by simp [World.cell?, hd], by simp [World.frozen?, hd], by simp [World.frozen?, hd], by simp [World.frozen?, hd], by simp [World.frozen?, hd], by simp [World.frozen?, hd], by simp [World.frozen?, hd], ?_, by simp, by simp, by simp, ⟨hok.len, hok.n1, hok.n2, hok.lt, by simp, by simp, by simp⟩⟩⟩
  rintro rfl
  rcases h.o1.2 with ⟨e, _⟩ | ⟨g1, c1, cur1, e, _, hg1, _⟩
  · cases e
  · have e' : D = g1 := by simpa [Value.ownBlock] using congrArg Value.ownBlock e
    rw [← e', hd] at hg1
    simp at hg1

/-- The disk behind its second region. -/
theorem Twin.armed {w w2 w3 : World} {V D n : Nat} {v1 v3 : Value} {s : St} (h : Twin w w2 V D v1 s) (hok : s.Ok n) (hb3 : Below w2.heap.size w2 w3) (ho3 : w3.ownsRow w2.heap.size 5 1 v3 s.picks.length (cellsB s.picks)) (hlt : ∀ x ∈ s.picks, x < 256) :
    ∃ m F, Dk ((w3.setCell ⟨D, 2, none⟩ (.int .i64 (s.left : Int))).setCell ⟨D, 3, none⟩ v3) D m none F n { s with pend := [] } ∧ (∀ k, Own D m F k → w.heap.size ≤ k) ∧ Boxed ((w3.setCell ⟨D, 2, none⟩ (.int .i64 (s.left : Int))).setCell ⟨D, 3, none⟩ v3) V 23 (.pointer (some ⟨D, 0, none⟩)) ∧ Below w.heap.size w ((w3.setCell ⟨D, 2, none⟩ (.int .i64 (s.left : Int))).setCell ⟨D, 3, none⟩ v3) := by
  obtain ⟨m, cap, rfl, hm, hD⟩ := h.dk hok
  have hz2 := h.bel.size
  have hDl := hD.gl
  have hml := hD.ml
  have hvl := ho3.lt
  have hVD : V ≠ D := fun e => by
    have h1 := h.vb
    have h2 := h.dv
    rw [← e] at h2
    have h3 : w2.heap[V]? = _ := h1
    rw [h2] at h3
    simp at h3
  have hVl := h.vb.lt
  have h3 := (hD.mono hb3).widen (F' := fun k => v3.ownBlock = some k) (fun _ e => e.elim) (fun e => by have := (hvl _ e).1; omega) (fun e => by have := (hvl _ e).1; omega) (fun k e => owns_lt' ho3 k e)
  have h4 := h3.store2 (l := s.left) hok.left
  have k2 := keeps_set w3 D 2 (.int .i64 (s.left : Int))
  have k3 := keeps_set (w3.setCell ⟨D, 2, none⟩ (.int .i64 (s.left : Int))) D 3 v3
  have hb : Bs (w3.setCell ⟨D, 2, none⟩ (.int .i64 (s.left : Int))) v3 s.picks := k2.bs (Bs.of_owns ho3 hlt) (fun b e e' => by have := (hvl b e).1; have e'' : b = D := e'; omega)
  have h5 := h4.store3 hb hok.picks (fun b e => ⟨e, by simp⟩)
  refine ⟨m, _, h5, ?_, ?_, ?_⟩
  · rintro k (e | e | e)
    · have := h.D1; omega
    · omega
    · have := (hvl k e).1; omega
  · have b3 : Boxed w3 V 23 _ := (hb3.block V hVl).trans h.vb
    exact (k3.block V (by have := b3.lt; have := k2.size; omega) hVD).trans ((k2.block V b3.lt hVD).trans b3)
  · exact ((h.bel.trans (hb3.mono hz2)).setCell (p := ⟨D, 2, none⟩) h.D1 _).setCell (p := ⟨D, 3, none⟩) h.D1 _

end Go.Proofs.Ytjcobealnjkkcaa
