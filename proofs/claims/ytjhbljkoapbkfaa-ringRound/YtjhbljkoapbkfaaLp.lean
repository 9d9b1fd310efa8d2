/- Records as plain data; what stands in a sector; a log read and written, as plain lists. No function of the program is called here. -/
import Derived.Test.YtjhbljkoapbkfaaR11
import Derived.Test.YtjhbljkoapbkfaaE2
set_option linter.unusedSimpArgs false
set_option linter.unusedVariables false
namespace Go.Proofs.Ytjhbljkoapbkfaa
open Go.RowKit Go.Attic Go.Shelf

structure Rc where
  k : Int
  b : Int
  o : Int
  m : Int
  l : List Nat

/-- The sector of a number within a block's bytes. -/
def secOf (bytes : List Nat) (n : Nat) : List Nat := (bytes.drop (n % 4 * 64)).take 64

/-- A sector is the record r at the number n. -/
def IsRc (L : List Nat) (n : Nat) (r : Rc) : Prop := ∃ (k b o m : Nat) (l : List Nat), r = ⟨k, b, o, m, l⟩ ∧ IsR L n k b o m l
def NoRc (L : List Nat) (n : Nat) : Prop := ∀ r, ¬ IsRc L n r

theorem IsRc.one {L : List Nat} {n n' : Nat} {r r' : Rc} (h : IsRc L n r) (h' : IsRc L n' r') : n = n' ∧ r = r' := by
  obtain ⟨k, b, o, m, l, rfl, h⟩ := h
  obtain ⟨k', b', o', m', l', rfl, h'⟩ := h'
  obtain ⟨rfl, rfl, rfl, rfl, rfl, rfl⟩ := h.one h'
  exact ⟨rfl, rfl⟩
theorem rc_em (L : List Nat) (n : Nat) : (∃ r, IsRc L n r) ∨ NoRc L n := by
  by_cases h : ∃ r, IsRc L n r
  · exact .inl h
  · exact .inr fun r hr => h ⟨r, hr⟩

/-- A record that may be. -/
def okRc (r : Rc) : Prop := okR r.k r.b r.o r.m r.l.length
theorem IsRc.ok {L : List Nat} {n : Nat} {r : Rc} (h : IsRc L n r) : okRc r ∧ r.l.length ≤ 44 ∧ (∀ x ∈ r.l, x < 256) ∧ L.length = 64 := by
  obtain ⟨k, b, o, m, l, rfl, h⟩ := h
  exact ⟨h.1, (okR_range h.1).2.2.2.2.2, h.2.2.1, h.len⟩

/-- The sector of a record that may be. -/
def secRc (n : Nat) (r : Rc) : List Nat := secR n r.k.toNat r.b.toNat r.o.toNat r.m.toNat r.l
theorem secRc_is {n : Nat} {r : Rc} (h : okRc r) (hn : n ≤ 2305843009213693952) (hx : ∀ x ∈ r.l, x < 256) : IsRc (secRc n r) n r := by
  obtain ⟨k, b, o, m, l⟩ := r
  obtain ⟨k', b', o', m', h1, h2, h3, h4⟩ := okR_nat h
  dsimp only at h1 h2 h3 h4 hx
  subst h1 h2 h3 h4
  exact ⟨k', b', o', m', l, rfl, h, hn, hx, rfl⟩
theorem secRc_length {n : Nat} {r : Rc} (h : okRc r) : (secRc n r).length = 64 := by
  obtain ⟨k, b, o, m, l⟩ := r
  obtain ⟨k', b', o', m', h1, h2, h3, h4⟩ := okR_nat h
  dsimp only at h1 h2 h3 h4
  subst h1 h2 h3 h4
  exact secR_length _ _ _ _ _ _ (okR_range h).2.2.2.2.2
theorem secRc_lt {n : Nat} {r : Rc} (h : okRc r) (hx : ∀ x ∈ r.l, x < 256) : ∀ y ∈ secRc n r, y < 256 := by
  obtain ⟨k, b, o, m, l⟩ := r
  obtain ⟨k', b', o', m', h1, h2, h3, h4⟩ := okR_nat h
  dsimp only at h1 h2 h3 h4 hx
  subst h1 h2 h3 h4
  have q := okR_range h
  exact secR_lt _ _ _ _ _ _ (by simp only [Int.toNat_natCast]; omega) (by simp only [Int.toNat_natCast]; omega) q.2.2.2.2.2 hx

/-- What Bytes answers of a record that may be. -/
theorem bytes_ok (n : Nat) (r : Rc) (hn : n ≤ 2305843009213693952) (h : okRc r) (v : Value) (w : World) (hv : Bs w v r.l) :
    Calls Try.prog 50 #[.int .i64 (n : Int), .agg #[.int .i64 r.k, .int .i64 r.b, .int .i64 r.o, v, .int .i64 r.m]] w (NewBsE w (secRc n r) 0) := by
  obtain ⟨k, b, o, m, l⟩ := r
  obtain ⟨k', b', o', m', h1, h2, h3, h4⟩ := okR_nat h
  dsimp only at h1 h2 h3 h4 hv
  subst h1 h2 h3 h4
  exact bytes_yes n k' b' o' m' v l w hv hn h

/-- What Take answers of a sector. -/
theorem take_is (L : List Nat) (n : Nat) (r : Rc) (h : IsRc L n r) (v : Value) (w : World) (hv : Bs w v L) :
    Calls Try.prog 44 #[v, .int .i64 (n : Int)] w (TakeE w r.k r.b r.o r.l r.m 0) := by
  obtain ⟨k, b, o, m, l, er, hT, hc⟩ := take_both L n hv.lt (by have := h.ok.2.2.2; omega)
  obtain ⟨k', b', o', m', l', rfl, hi⟩ := h
  rcases hT with ⟨rfl, p, k2, b2, o2, m2, hp, rfl, rfl, rfl, rfl, h2⟩ | ⟨_, _, h2⟩
  · obtain ⟨_, rfl, rfl, rfl, rfl, rfl⟩ := hi.one h2
    exact hc v w hv
  · exact absurd rfl (h2 _ _ _ _ _ _ hi)
theorem take_not (L : List Nat) (n : Nat) (h : NoRc L n) (hl : L.length ≤ 140737488355328) (hx : ∀ x ∈ L, x < 256) : ∃ (k b o m er : Int), (er = 1 ∨ er = 61) ∧ ∀ (v : Value) (w : World), Bs w v L →
    Calls Try.prog 44 #[v, .int .i64 (n : Int)] w (TakeE w k b o [] m er) := by
  obtain ⟨k, b, o, m, l, er, hT, hc⟩ := take_both L n hx hl
  rcases hT with ⟨rfl, p, k2, b2, o2, m2, hp, rfl, rfl, rfl, rfl, h2⟩ | ⟨he, rfl, h2⟩
  · exact absurd ⟨k2, b2, o2, m2, l, rfl, by have : n = p := by omega
                                             rw [this]; exact h2⟩ (h ⟨k2, b2, o2, m2, l⟩)
  · exact ⟨k, b, o, m, er, he, fun v w hv => hc v w hv⟩

/-- The sector in which a number stands, as it is read. -/
def secAt (s : St) (base blocks n : Nat) : List Nat := secOf (readL s (base + n / 4 % blocks)) n

/-- The records rs are those from head on, at most c, as long as there is one. -/
def Got (f : Nat → List Nat) (head : Nat) (rs : List Rc) : Prop := ∀ i (h : i < rs.length), IsRc (f (head + i)) (head + i) rs[i]
def Scanned (f : Nat → List Nat) (head c : Nat) (rs : List Rc) : Prop := Got f head rs ∧ rs.length ≤ c ∧ (rs.length = c ∨ NoRc (f (head + rs.length)) (head + rs.length))

theorem Got.snoc {f : Nat → List Nat} {head : Nat} {rs : List Rc} {r : Rc} (h : Got f head rs) (hr : IsRc (f (head + rs.length)) (head + rs.length) r) : Got f head (rs ++ [r]) := by
  intro i hi
  by_cases h1 : i < rs.length
  · rw [List.getElem_append_left h1]; exact h i h1
  · have e : i = rs.length := by simp at hi; omega
    subst e
    simpa using hr

theorem Scanned.one {f : Nat → List Nat} {head c : Nat} {rs rs' : List Rc} (h : Scanned f head c rs) (h' : Scanned f head c rs') : rs = rs' := by
  have key : ∀ {a b : List Rc}, Scanned f head c a → Scanned f head c b → a.length ≤ b.length := by
    intro a b ha hb
    rcases Nat.lt_or_ge b.length a.length with hlt | hge
    · exfalso
      rcases hb.2.2 with e | e
      · have := ha.2.1; omega
      · exact e _ (ha.1 b.length hlt)
    · exact hge
  have hl : rs.length = rs'.length := Nat.le_antisymm (key h h') (key h' h)
  apply List.ext_getElem hl
  intro i h1 h2
  exact ((h.1 i h1).one (h'.1 i h2)).2

/-- Records laid into a block's bytes, from the number t on. -/
def layB (bytes : List Nat) (t : Nat) : List Rc → List Nat
  | [] => bytes
  | r :: rs => layB (splice bytes (t % 4 * 64) (secRc t r)) (t + 1) rs

/-- A log's records are written, run by run. -/
def layN (n base blocks : Nat) : Nat → St → Nat → List Rc → St × Int
  | 0, s, _, _ => (s, 0)
  | f + 1, s, t, rs => if rs.length = 0 then (s, 0) else if s.on = false then (s, 5) else
      if (writeS s n ((base + t / 4 % blocks : Nat) : Int) (layB (readL s (base + t / 4 % blocks)) t (rs.take (min rs.length (4 - t % 4))))).2 ≠ 0 then
        writeS s n ((base + t / 4 % blocks : Nat) : Int) (layB (readL s (base + t / 4 % blocks)) t (rs.take (min rs.length (4 - t % 4))))
      else layN n base blocks f (writeS s n ((base + t / 4 % blocks : Nat) : Int) (layB (readL s (base + t / 4 % blocks)) t (rs.take (min rs.length (4 - t % 4))))).1 (t + min rs.length (4 - t % 4)) (rs.drop (min rs.length (4 - t % 4)))

theorem readL_ok {s : St} {n i : Nat} (h : s.Ok n) (hi : i < n) : (readL s i).length = 256 ∧ ∀ x ∈ readL s i, x < 256 := by
  have key : ∀ (ps : List (Nat × List Nat)) (l : List Nat), lastW ps i = some l → ∃ x ∈ ps, x.2 = l := by
    intro ps
    induction ps with
    | nil => intro l h; cases h
    | cons w ps ih =>
      intro l h
      simp only [lastW] at h
      cases hw : lastW ps i with
      | some l' => rw [hw] at h; obtain ⟨x, hx, e⟩ := ih l' hw; injection h with h; exact ⟨x, by simp [hx], e.trans h⟩
      | none =>
        rw [hw] at h
        by_cases hb : w.1 = i
        · simp only [hb] at h; injection h with h; exact ⟨w, by simp, h⟩
        · simp [hb] at h
  unfold readL
  cases hw : lastW s.pend i with
  | some l =>
    obtain ⟨x, hx, rfl⟩ := key _ _ hw
    exact (h.pend x hx).2
  | none =>
    refine ⟨by simp [blockL]; have := h.len; omega, fun x hx => h.lt x (List.mem_of_mem_drop (List.mem_of_mem_take hx))⟩

theorem layB_length (bytes : List Nat) (t : Nat) (rs : List Rc) (hb : bytes.length = 256) (hr : ∀ r ∈ rs, okRc r) : (layB bytes t rs).length = 256 := by
  induction rs generalizing bytes t with
  | nil => exact hb
  | cons r rs ih =>
    have hl := secRc_length (n := t) (hr r (by simp))
    exact ih _ _ (by rw [length_splice _ _ _ (by omega)]; exact hb) (fun x hx => hr x (by simp [hx]))

end Go.Proofs.Ytjhbljkoapbkfaa
