/- The cache in memory (Ca): its cells, its map, its buffers; what leaves it as it is, and what turns it. -/
import Derived.Test.YtjcmmigbkhiplaaM1
import Derived.Test.YtjcmmigbkhiplaaCp
set_option linter.unusedSimpArgs false
set_option linter.unusedVariables false
namespace Go.Proofs.Ytjcmmigbkhiplaa
open Go.RowKit Go.Attic

structure BufAt (w : World) (x : Bu) : Prop where
  c0 : w.cell? ⟨x.p, 0, none⟩ = some (.slice (some ⟨x.r, 0, none⟩) 256 x.cap)
  c1 : w.cell? ⟨x.p, 1, none⟩ = some (.bool x.d)
  c2 : w.cell? ⟨x.p, 2, none⟩ = some (.int .i64 (x.a : Int))
  f1 : w.frozen? ⟨x.p, 1, none⟩ = false
  f2 : w.frozen? ⟨x.p, 2, none⟩ = false
  row : w.ownsRow 0 5 1 (.slice (some ⟨x.r, 0, none⟩) 256 x.cap) 256 (cellsB x.l)
  len : x.l.length = 256
  lt : ∀ y ∈ x.l, y < 256
  i : x.i < 2048

theorem BufAt.pl {w : World} {x : Bu} (h : BufAt w x) : x.p < w.heap.size := by have := World.block_lt_of_cell? w _ h.c1; simpa using this
theorem BufAt.rl {w : World} {x : Bu} (h : BufAt w x) : x.r < w.heap.size := owns_lt' h.row x.r rfl
theorem BufAt.keeps {w w' : World} {x : Bu} {S : Nat → Prop} (h : BufAt w x) (hk : Keeps S w w') (hp : ¬ S x.p) (hr : ¬ S x.r) : BufAt w' x :=
  ⟨hk.cell h.c0 hp, hk.cell h.c1 hp, hk.cell h.c2 hp, by rw [hk.frozen (a := ⟨x.p, 1, none⟩) h.pl hp]; exact h.f1, by rw [hk.frozen (a := ⟨x.p, 2, none⟩) h.pl hp]; exact h.f2,
    hk.owns h.row (fun b hb => by cases hb; exact hr), h.len, h.lt, h.i⟩

def keysOf (B : List Bu) : List (Int × Nat) := B.map fun x => ((x.i : Int), x.p)

/-- The cache in block c: its map in block m, of the disk in block g; what else it reads lies in F. -/
structure Ca (w : World) (c m g : Nat) (room q : Nat) (B : List Bu) (F : Nat → Prop) : Prop where
  c0 : w.cell? ⟨c, 0, none⟩ = some (.pointer (some ⟨g, 0, none⟩))
  c1 : w.cell? ⟨c, 1, none⟩ = some (.int .i64 (room : Int))
  c2 : w.cell? ⟨c, 2, none⟩ = some (.map (some m))
  c3 : w.cell? ⟨c, 3, none⟩ = some (.int .i64 (q : Int))
  f3 : w.frozen? ⟨c, 3, none⟩ = false
  mp : MpAt w m (keysOf B)
  bu : ∀ x ∈ B, BufAt w x
  inF : ∀ x ∈ B, F x.p ∧ F x.r
  Fm : F m
  Fc : ¬ F c
  Fl : ∀ k, F k → k < w.heap.size
  ne : ∀ x ∈ B, x.p ≠ m ∧ x.r ≠ m ∧ ∀ y ∈ B, x.p ≠ y.r
  pw : B.Pairwise (fun x y => x.i ≠ y.i ∧ x.p ≠ y.p ∧ x.r ≠ y.r)

section
variable {w w' : World} {c m g room q : Nat} {B : List Bu} {F : Nat → Prop}

theorem Ca.cl (h : Ca w c m g room q B F) : c < w.heap.size := by have := World.block_lt_of_cell? w _ h.c3; simpa using this
theorem Ca.nodup (h : Ca w c m g room q B F) : B.Pairwise (fun x y => x.i ≠ y.i) := h.pw.imp (fun h => h.1)

theorem Ca.keeps {S : Nat → Prop} (h : Ca w c m g room q B F) (hk : Keeps S w w') (hc : ¬ S c) (hF : ∀ k, F k → ¬ S k) : Ca w' c m g room q B F :=
  ⟨hk.cell h.c0 hc, hk.cell h.c1 hc, hk.cell h.c2 hc, hk.cell h.c3 hc, by rw [hk.frozen (a := ⟨c, 3, none⟩) h.cl hc]; exact h.f3, h.mp.keeps hk (hF m h.Fm),
    fun x hx => (h.bu x hx).keeps hk (hF _ (h.inF x hx).1) (hF _ (h.inF x hx).2), h.inF, h.Fm, h.Fc, fun k hk' => Nat.lt_of_lt_of_le (h.Fl k hk') hk.size, h.ne, h.pw⟩
theorem Ca.mono (h : Ca w c m g room q B F) (hb : Below w.heap.size w w') : Ca w' c m g room q B F :=
  h.keeps (S := fun _ => False) (Keeps.of_below hb) id (fun _ _ => id)
theorem Ca.perm {B' : List Bu} (h : Ca w c m g room q B F) (hp : B.Perm B') : Ca w c m g room q B' F :=
  ⟨h.c0, h.c1, h.c2, h.c3, h.f3, h.mp.perm (hp.map _), fun x hx => h.bu x (hp.mem_iff.2 hx), fun x hx => h.inF x (hp.mem_iff.2 hx), h.Fm, h.Fc, h.Fl,
    fun x hx => ⟨(h.ne x (hp.mem_iff.2 hx)).1, (h.ne x (hp.mem_iff.2 hx)).2.1, fun y hy => (h.ne x (hp.mem_iff.2 hx)).2.2 y (hp.mem_iff.2 hy)⟩,
    (hp.pairwise_iff (fun {_ _} hne => ⟨hne.1.symm, hne.2.1.symm, hne.2.2.symm⟩)).1 h.pw⟩

/-- The next asking. -/
theorem Ca.ask (h : Ca w c m g room q B F) (n : Nat) : Ca (w.setCell ⟨c, 3, none⟩ (.int .i64 (n : Int))) c m g room n B F := by
  have hk : Keeps (fun k => k = c) w (w.setCell ⟨c, 3, none⟩ (.int .i64 (n : Int))) := Keeps.setCell (S := fun k => k = c) w rfl _
  have hc := h.c3
  have hc0 := h.c0
  have hc1 := h.c1
  have hc2 := h.c2
  refine ⟨?_, ?_, ?_, ?_, ?_, h.mp.keeps hk (fun e => h.Fc (e ▸ h.Fm)), fun x hx => (h.bu x hx).keeps hk (fun e => h.Fc (e ▸ (h.inF x hx).1)) (fun e => h.Fc (e ▸ (h.inF x hx).2)), h.inF, h.Fm, h.Fc, fun k hk' => Nat.lt_of_lt_of_le (h.Fl k hk') hk.size, h.ne, h.pw⟩
  · exact cell_set_other hc0 (by omega)
  · exact cell_set_other hc1 (by omega)
  · exact cell_set_other hc2 (by omega)
  · exact cell_set_same hc
  · simpa using h.f3

/-- One buffer turns: the last one. -/
theorem Ca.upd {B0 : List Bu} {x x' : Bu} (h : Ca w c m g room q (B0 ++ [x]) F) (ei : x'.i = x.i) (ep : x'.p = x.p) (er : x'.r = x.r) (hk : Keeps (fun k => k = x.p ∨ k = x.r) w w') (hb : BufAt w' x') : Ca w' c m g room q (B0 ++ [x']) F := by
  have hxm : x ∈ B0 ++ [x] := by simp
  have hin := h.inF x hxm
  have hne := h.ne x hxm
  have hpw := List.pairwise_append.1 h.pw
  have hc : ¬ (c = x.p ∨ c = x.r) := by rintro (e | e); exact h.Fc (e ▸ hin.1); exact h.Fc (e ▸ hin.2)
  refine ⟨hk.cell h.c0 hc, hk.cell h.c1 hc, hk.cell h.c2 hc, hk.cell h.c3 hc, by rw [hk.frozen (a := ⟨c, 3, none⟩) h.cl hc]; exact h.f3, ?_, ?_, ?_, h.Fm, h.Fc, fun k hk' => Nat.lt_of_lt_of_le (h.Fl k hk') hk.size, ?_, ?_⟩
  · have := h.mp.keeps hk (by rintro (e | e); exact hne.1 e.symm; exact hne.2.1 e.symm)
    simpa [keysOf, ei, ep] using this
  · intro y hy
    rcases List.mem_append.1 hy with hm | hm
    · have h1 := hpw.2.2 y hm x (by simp)
      have h2 := h.ne y (by simp [hm])
      refine (h.bu y (by simp [hm])).keeps hk ?_ ?_
      · rintro (e | e)
        · exact h1.2.1 e
        · exact h2.2.2 x hxm e
      · rintro (e | e)
        · exact hne.2.2 y (by simp [hm]) e.symm
        · exact h1.2.2 e
    · obtain rfl : y = x' := by simpa using hm
      exact hb
  · intro y hy
    rcases List.mem_append.1 hy with hm | hm
    · exact h.inF y (by simp [hm])
    · obtain rfl : y = x' := by simpa using hm
      rw [ep, er]; exact hin
  · have key : ∀ y ∈ B0 ++ [x'], ∃ z ∈ B0 ++ [x], y.p = z.p ∧ y.r = z.r := by
      intro y hy
      rcases List.mem_append.1 hy with hm | hm
      · exact ⟨y, by simp [hm], rfl, rfl⟩
      · obtain rfl : y = x' := by simpa using hm
        exact ⟨x, hxm, ep, er⟩
    intro y hy
    obtain ⟨z, hz, e1, e2⟩ := key y hy
    have := h.ne z hz
    rw [e1, e2]
    refine ⟨this.1, this.2.1, fun u hu => ?_⟩
    obtain ⟨z2, hz2, -, e4⟩ := key u hu
    rw [e4]
    exact this.2.2 z2 hz2
  · rw [List.pairwise_append]
    refine ⟨hpw.1, by simp, fun y hy z hz => ?_⟩
    obtain rfl : z = x' := by simpa using hz
    rw [ei, ep, er]
    exact hpw.2.2 y hy x (by simp)

/-- One buffer goes. -/
theorem Ca.drop (h : Ca w c m g room q B F) (i : Nat) (hk : Keeps (fun k => k = m) w w') (hmp : MpAt w' m ((keysOf B).filter fun x => x.1 != (i : Int))) : Ca w' c m g room q (B.filter (fun y => y.i != i)) F := by
  have hc : ¬ (c = m) := fun e => h.Fc (e ▸ h.Fm)
  refine ⟨hk.cell h.c0 hc, hk.cell h.c1 hc, hk.cell h.c2 hc, hk.cell h.c3 hc, by rw [hk.frozen (a := ⟨c, 3, none⟩) h.cl hc]; exact h.f3, ?_, ?_, ?_, h.Fm, h.Fc, fun k hk' => Nat.lt_of_lt_of_le (h.Fl k hk') hk.size, ?_, h.pw.filter _⟩
  · have e : (keysOf B).filter (fun x => x.1 != (i : Int)) = keysOf (B.filter (fun y => y.i != i)) := by
      unfold keysOf
      rw [List.filter_map]
      congr 1
      apply List.filter_congr
      intro x _
      simp only [Function.comp, bne, beq_iff_eq]
      congr 1
      rw [Bool.eq_iff_iff]; simp; omega
    rw [← e]; exact hmp
  · intro x hx
    have hx := (List.mem_filter.1 hx).1
    exact (h.bu x hx).keeps hk (h.ne x hx).1 (h.ne x hx).2.1
  · intro x hx
    exact h.inF x (List.mem_filter.1 hx).1
  · intro x hx
    have := h.ne x (List.mem_filter.1 hx).1
    exact ⟨this.1, this.2.1, fun y hy => this.2.2 y (List.mem_filter.1 hy).1⟩

/-- A new one. -/
theorem Ca.push {x : Bu} (h : Ca w c m g room q B F) (hk : Keeps (fun k => k = m) w w') (hmp : MpAt w' m (keysOf B ++ [((x.i : Int), x.p)])) (hb : BufAt w x) (hp : ¬ F x.p) (hr : ¬ F x.r) (hpr : x.p ≠ x.r) (hcp : c ≠ x.p) (hcr : c ≠ x.r) (hi : ∀ y ∈ B, y.i ≠ x.i) :
    Ca w' c m g room q (B ++ [x]) (fun k => F k ∨ k = x.p ∨ k = x.r) := by
  have hc : ¬ (c = m) := fun e => h.Fc (e ▸ h.Fm)
  have pm : x.p ≠ m := fun e => hp (e ▸ h.Fm)
  have rm : x.r ≠ m := fun e => hr (e ▸ h.Fm)
  refine ⟨hk.cell h.c0 hc, hk.cell h.c1 hc, hk.cell h.c2 hc, hk.cell h.c3 hc, by rw [hk.frozen (a := ⟨c, 3, none⟩) h.cl hc]; exact h.f3, ?_, ?_, ?_, .inl h.Fm, ?_, ?_, ?_, ?_⟩
  · unfold keysOf at hmp ⊢
    simpa using hmp
  · intro y hy
    rcases List.mem_append.1 hy with hm | hm
    · exact (h.bu y hm).keeps hk (h.ne y hm).1 (h.ne y hm).2.1
    · obtain rfl : y = x := by simpa using hm
      exact hb.keeps hk pm rm
  · intro y hy
    rcases List.mem_append.1 hy with hm | hm
    · exact ⟨.inl (h.inF y hm).1, .inl (h.inF y hm).2⟩
    · obtain rfl : y = x := by simpa using hm
      exact ⟨.inr (.inl rfl), .inr (.inr rfl)⟩
  · rintro (e | e | e)
    · exact h.Fc e
    · exact hcp e
    · exact hcr e
  · rintro k (e | e | e)
    · exact Nat.lt_of_lt_of_le (h.Fl k e) hk.size
    · rw [e]; exact Nat.lt_of_lt_of_le hb.pl hk.size
    · rw [e]; exact Nat.lt_of_lt_of_le hb.rl hk.size
  · intro y hy
    rcases List.mem_append.1 hy with hm | hm
    · have := h.ne y hm
      refine ⟨this.1, this.2.1, fun z hz => ?_⟩
      rcases List.mem_append.1 hz with hn | hn
      · exact this.2.2 z hn
      · obtain rfl : z = x := by simpa using hn
        exact fun e => hr (e ▸ (h.inF y hm).1)
    · obtain rfl : y = x := by simpa using hm
      refine ⟨pm, rm, fun z hz => ?_⟩
      rcases List.mem_append.1 hz with hn | hn
      · exact fun e => hp (e ▸ (h.inF z hn).2)
      · obtain rfl : z = y := by simpa using hn
        exact hpr
  · rw [List.pairwise_append]
    refine ⟨h.pw, by simp, fun y hy z hz => ?_⟩
    obtain rfl : z = x := by simpa using hz
    exact ⟨hi y hy, fun e => hp (e ▸ (h.inF y hy).1), fun e => hr (e ▸ (h.inF y hy).2)⟩

end

end Go.Proofs.Ytjcmmigbkhiplaa
