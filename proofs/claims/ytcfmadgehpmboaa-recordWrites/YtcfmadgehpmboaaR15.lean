/- Take and Lsn of any bytes, on both sides. -/
import Derived.Test.YtcfmadgehpmboaaR11
import Derived.Test.YtcfmadgehpmboaaR12
import Derived.Test.YtcfmadgehpmboaaR13
import Derived.Test.YtcfmadgehpmboaaR14
set_option linter.unusedSimpArgs false
set_option linter.unusedVariables false
namespace Go.Proofs.Ytcfmadgehpmboaa
open Go.RowKit Go.Attic

theorem rparse_yes (v : Value) (L : List Nat) (p k b o m : Nat) (l : List Nat) (h : IsR L p k b o m l) (w : World) (hv : Bs w v L) : Calls Try.prog 30 #[v] w (RParE w k b o l m p true) := by
  have hl := h.len
  have r := okR_range h.1
  obtain ⟨e0, e1, e2, e3, e4, e5⟩ := h.fields
  have hp := h.2.1
  have hM : ∀ y ∈ secR p k b o m l, y < 256 := secR_lt _ _ _ _ _ _ (by omega) (by omega) (by omega) h.2.2.1
  by_cases h2 : k = 2
  · obtain ⟨rfl, rfl, hl0⟩ := okR_commit h.1 h2
    subst h2
    obtain rfl : l = [] := List.eq_nil_of_length_eq_zero hl0
    rw [show numR 2 0 m = m from rfl] at e3
    have := rparse_C_eq v L w hv hl (by omega) (by omega) (by omega) (secR p 2 0 0 m []) 0 (fun v' w hb => by
      rw [e0, e2, e3]
      exact rbytes_yes p 2 0 0 m v' [] w hb hp h.1) hM rfl h.2.2.2.symm
    rw [e0, e2, e3] at this
    exact this
  · obtain rfl : k = 1 := by omega
    obtain rfl := okR_patch h.1 rfl
    rw [show numR 1 b 0 = b from rfl] at e3
    have := rparse_P_eq v L w hv hl (by omega) (by omega) e0 (secR p 1 b o 0 l) 0 (fun v' w hb => by
      rw [e1, e5] at hb
      rw [e2, e3, e4]
      exact rbytes_yes p 1 b o 0 v' l w hb hp h.1) hM rfl h.2.2.2.symm
    rw [e1, e5, e2, e3, e4] at this
    exact this

theorem rparse_no (v : Value) (L : List Nat) (hlen : L.length ≤ 140737488355328) (h : NoR L) (hx : ∀ x ∈ L, x < 256) : ∃ (k b o m p : Int) (l : List Nat), ∀ w, Bs w v L → Calls Try.prog 30 #[v] w (RParE w k b o l m p false) := by
  have zero : ∀ w, (Calls Try.prog 30 #[v] w fun e w' => e = .returned (.tuple #[.agg #[.int .i64 0, .int .i64 0, .int .i64 0, .slice none 0 0, .int .i64 0], .int .i64 0, .bool false]) ∧ Below w.heap.size w w') → Calls Try.prog 30 #[v] w (RParE w 0 0 0 [] 0 0 false) := fun w hh =>
    hh.mono (fun e w' ⟨h1, h2⟩ => ⟨_, h1, Bs.nil _, (fun j hj => by cases hj), h2⟩)
  by_cases hl : L.length = 64
  · by_cases h1 : L.getD 1 0 ≤ 44
    · by_cases h2 : getN L 2 8 ≤ 2305843009213693952
      · by_cases h0 : L.getD 0 0 = 1
        · have hlx : ∀ x ∈ (L.drop 16).take (L.getD 1 0), x < 256 := fun x hx' => hx x (List.mem_of_mem_drop (List.mem_of_mem_take hx'))
          obtain ⟨M, er, hM, -, h10⟩ := bytes_both (getN L 2 8 : Nat) 1 (getN L 10 4 : Nat) (L.getD 14 0 : Nat) 0 ((L.drop 16).take (L.getD 1 0)) hlx (by rw [List.length_take]; omega)
          have hMx := hM.lt
          refine ⟨1, (getN L 10 4 : Nat), (L.getD 14 0 : Nat), 0, (getN L 2 8 : Nat), (L.drop 16).take (L.getD 1 0), fun w hv => ?_⟩
          rcases hM with ⟨he, p', k', b', o', m', -, -, -, -, -, hi⟩ | ⟨he, -⟩
          · exact rparse_P_ne v L w hv hl h1 h2 h0 M er h10 hMx he (fun e => h p' k' b' o' m' _ (e ▸ hi))
          · exact rparse_P_err v L w hv hl h1 h2 h0 M er h10 hMx (by simp; omega)
        · obtain ⟨M, er, hM, -, h10⟩ := bytes_both (getN L 2 8 : Nat) (L.getD 0 0 : Nat) 0 0 (getN L 10 4 : Nat) [] (by simp) (by simp)
          have hMx := hM.lt
          refine ⟨(L.getD 0 0 : Nat), 0, 0, (getN L 10 4 : Nat), (getN L 2 8 : Nat), [], fun w hv => ?_⟩
          rcases hM with ⟨he, p', k', b', o', m', -, -, -, -, -, hi⟩ | ⟨he, -⟩
          · exact rparse_C_ne v L w hv hl h1 h2 h0 M er h10 hMx he (fun e => h p' k' b' o' m' _ (e ▸ hi))
          · exact rparse_C_err v L w hv hl h1 h2 h0 M er h10 hMx (by simp; omega)
      · exact ⟨0, 0, 0, 0, 0, [], fun w hv => zero w (rparse_far v L w hv hl h1 (by omega))⟩
    · exact ⟨0, 0, 0, 0, 0, [], fun w hv => zero w (rparse_big v L w hv hl (by omega))⟩
  · exact ⟨0, 0, 0, 0, 0, [], fun w hv => zero w (rparse_short v L w hv hlen hl)⟩

/-- What Take answers of any bytes at any place. -/
def TakeR (L : List Nat) (q k b o m : Int) (l : List Nat) (er : Int) : Prop :=
  (er = 0 ∧ ∃ p' k' b' o' m' : Nat, q = p' ∧ k = k' ∧ b = b' ∧ o = o' ∧ m = m' ∧ IsR L p' k' b' o' m' l) ∨
  ((er = 1 ∨ er = 61) ∧ l = [] ∧ ∀ (p' k' b' o' m' : Nat) (l' : List Nat), IsR L p' k' b' o' m' l' → q ≠ p')

theorem take_both (L : List Nat) (q : Int) (hx : ∀ x ∈ L, x < 256) (hlen : L.length ≤ 140737488355328) : ∃ (k b o m : Int) (l : List Nat) (er : Int), TakeR L q k b o m l er ∧
    (∀ v w, Bs w v L → Calls Try.prog 18 #[v, .int .i64 q] w (TakeE w k b o l m er)) ∧ (∀ v w, Bs w v L → Calls Try.prog 19 #[v, .int .i64 q] w (RTakeE w k b o l m er)) := by
  cases hp : placeB q with
  | false =>
    have hp2 : ¬ (0 ≤ q ∧ q ≤ 2305843009213693952) := by simpa [placeB] using hp
    refine ⟨0, 0, 0, 0, [], 1, .inr ⟨.inl rfl, rfl, fun p' k' b' o' m' l' hi e => ?_⟩, fun v w hv => take_arg v L q w hv hp, fun v w hv => ?_⟩
    · have := hi.2.1; omega
    · by_cases h0 : q < 0
      · exact rtake_neg v L q w hv h0
      · exact rtake_far v L q w hv (by omega) (by omega)
  | true =>
    have hp2 : 0 ≤ q ∧ q ≤ 2305843009213693952 := by simpa [placeB] using hp
    by_cases h : ∃ (p k b o m : Nat) (l : List Nat), IsR L p k b o m l
    · obtain ⟨p, k, b, o, m, l, h⟩ := h
      have r := okR_range h.1
      by_cases hq : (p : Int) = q
      · refine ⟨k, b, o, m, l, 0, .inl ⟨rfl, p, k, b, o, m, hq.symm, rfl, rfl, rfl, rfl, h⟩, fun v w hv => ?_, fun v w hv => ?_⟩
        · obtain ⟨vr, hvr, hc⟩ := parse_yes v L p k b o m l h
          exact take_yes v L q w hv hp p k b o m 0 l vr hvr hc (by omega) rfl (by simp [hq])
        · exact rtake_yes v L q w hv hp2.1 hp2.2 k b o m p l true (fun w hv => rparse_yes v L p k b o m l h w hv) rfl (by simp [hq])
      · refine ⟨0, 0, 0, 0, [], 61, .inr ⟨.inr rfl, rfl, fun p' k' b' o' m' l' hi e => ?_⟩, fun v w hv => ?_, fun v w hv => ?_⟩
        · have := (h.one hi).1; omega
        · obtain ⟨vr, hvr, hc⟩ := parse_yes v L p k b o m l h
          exact take_other v L q w hv hp p k b o m 0 l vr hvr hc rfl (by simpa using hq)
        · exact rtake_other v L q w hv hp2.1 hp2.2 k b o m p l true (fun w hv => rparse_yes v L p k b o m l h w hv) rfl (by simpa using hq)
    · have hno : NoR L := fun p k b o m l hh => h ⟨p, k, b, o, m, l, hh⟩
      refine ⟨0, 0, 0, 0, [], 61, .inr ⟨.inr rfl, rfl, fun p' k' b' o' m' l' hi => absurd hi (hno _ _ _ _ _ _)⟩, fun v w hv => ?_, fun v w hv => ?_⟩
      · exact take_stale v L q w hv hp 0 0 0 0 0 61 [] (.slice none 0 0) (fun w _ => Bs.nil w) (fun w hv => parse_no v L hlen hno w hv) (by decide)
      · obtain ⟨k, b, o, m, p, l, hc⟩ := rparse_no v L hlen hno hx
        exact rtake_not v L q w hv hp2.1 hp2.2 k b o m p l false hc rfl

/-- What Lsn answers of any bytes. -/
def LsnR (L : List Nat) (p er : Int) : Prop := (er = 0 ∧ ∃ (p' k' b' o' m' : Nat) (l' : List Nat), p = p' ∧ IsR L p' k' b' o' m' l') ∨ (er = 61 ∧ NoR L)

theorem lsn_both (L : List Nat) (hx : ∀ x ∈ L, x < 256) (hlen : L.length ≤ 140737488355328) : ∃ (p er : Int), LsnR L p er ∧
    (∀ v w, Bs w v L → Calls Try.prog 20 #[v] w fun e w' => e = .returned (.tuple #[.int .i64 p, .int .i64 er]) ∧ Below w.heap.size w w') ∧ (∀ v w, Bs w v L → Calls Try.prog 21 #[v] w fun e w' => e = .returned (.tuple #[.int .i64 p, .int .i64 er]) ∧ Below w.heap.size w w') := by
  by_cases h : ∃ (p k b o m : Nat) (l : List Nat), IsR L p k b o m l
  · obtain ⟨p, k, b, o, m, l, h⟩ := h
    refine ⟨p, 0, .inl ⟨rfl, p, k, b, o, m, l, rfl, h⟩, fun v w hv => ?_, fun v w hv => ?_⟩
    · obtain ⟨vr, hvr, hc⟩ := parse_yes v L p k b o m l h
      exact lsn_of v L w hv p k b o m 0 l vr hvr hc
    · exact rlsn_yes v L w hv k b o m p l true (fun w hv => rparse_yes v L p k b o m l h w hv) rfl
  · have hno : NoR L := fun p k b o m l hh => h ⟨p, k, b, o, m, l, hh⟩
    refine ⟨0, 61, .inr ⟨rfl, hno⟩, fun v w hv => ?_, fun v w hv => ?_⟩
    · exact lsn_of v L w hv 0 0 0 0 0 61 [] (.slice none 0 0) (fun w _ => Bs.nil w) (fun w hv => parse_no v L hlen hno w hv)
    · obtain ⟨k, b, o, m, p, l, hc⟩ := rparse_no v L hlen hno hx
      exact rlsn_not v L w hv k b o m p l false hc rfl

end Go.Proofs.Ytcfmadgehpmboaa
