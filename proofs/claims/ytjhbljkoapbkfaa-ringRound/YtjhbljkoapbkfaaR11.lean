/- Bytes of any record on both sides; what parse answers of any bytes. -/
import Derived.Test.YtjhbljkoapbkfaaR7
import Derived.Test.YtjhbljkoapbkfaaR12
import Derived.Test.YtjhbljkoapbkfaaR9
import Derived.Test.YtjhbljkoapbkfaaR10
set_option linter.unusedSimpArgs false
set_option linter.unusedVariables false
namespace Go.Proofs.Ytjhbljkoapbkfaa
open Go.RowKit Go.Attic

/-- What Bytes answers: the sector, or an error. -/
def BytesR (p k b o m : Int) (l M : List Nat) (er : Int) : Prop :=
  (er = 0 ∧ ∃ p' k' b' o' m' : Nat, p = p' ∧ k = k' ∧ b = b' ∧ o = o' ∧ m = m' ∧ IsR M p' k' b' o' m' l) ∨ ((er = 1 ∨ er = 60) ∧ M = [])

theorem BytesR.lt {p k b o m : Int} {l M : List Nat} {er : Int} (h : BytesR p k b o m l M er) : ∀ y ∈ M, y < 256 := by
  rcases h with ⟨_, p', k', b', o', m', _, _, _, _, _, h⟩ | ⟨_, rfl⟩
  · have r := okR_range h.1
    rw [h.2.2.2]
    exact secR_lt _ _ _ _ _ _ (by omega) (by omega) (by omega) h.2.2.1
  · simp

theorem bytes_both (p k b o m : Int) (l : List Nat) (hx : ∀ x ∈ l, x < 256) (hlen : l.length ≤ 140737488355328) : ∃ M er, BytesR p k b o m l M er ∧
    (∀ v w, Bs w v l → Calls Try.prog 50 #[.int .i64 p, .agg #[.int .i64 k, .int .i64 b, .int .i64 o, v, .int .i64 m]] w (NewBsE w M er)) := by
  cases hp : placeB p with
  | false => exact ⟨[], 1, .inr ⟨.inl rfl, rfl⟩, fun v w hv => bytes_arg p k b o m v l w hv hp⟩
  | true =>
    by_cases h : okR k b o m l.length
    · have hp2 : 0 ≤ p ∧ p ≤ 2305843009213693952 := by simpa [placeB] using hp
      obtain ⟨k', b', o', m', rfl, rfl, rfl, rfl⟩ := okR_nat h
      obtain ⟨p', rfl⟩ := Int.eq_ofNat_of_zero_le hp2.1
      have hp3 : p' ≤ 2305843009213693952 := by omega
      exact ⟨secR p' k' b' o' m' l, 0, .inl ⟨rfl, p', k', b', o', m', rfl, rfl, rfl, rfl, rfl, h, hp3, hx, rfl⟩, fun v w hv => bytes_yes p' k' b' o' m' v l w hv hp3 h⟩
    · have hc : chkR k b o m l.length ≠ 0 := fun e => h (chkR_zero e)
      refine ⟨[], chkR k b o m l.length, .inr ⟨.inr (chkR_no h), rfl⟩, fun v w hv => bytes_rec p k b o m v l w hv hlen hp hc⟩

/-- What any bytes are told to be. -/
def Par (L : List Nat) (p k b o m : Int) (l : List Nat) (er : Int) : Prop :=
  (er = 0 ∧ ∃ p' k' b' o' m' : Nat, p = p' ∧ k = k' ∧ b = b' ∧ o = o' ∧ m = m' ∧ IsR L p' k' b' o' m' l) ∨ (er = 61 ∧ NoR L ∧ p = 0 ∧ k = 0 ∧ b = 0 ∧ o = 0 ∧ m = 0 ∧ l = [])

theorem par_ex (L : List Nat) : ∃ p k b o m l er, Par L p k b o m l er := by
  by_cases h : ∃ (p k b o m : Nat) (l : List Nat), IsR L p k b o m l
  · obtain ⟨p, k, b, o, m, l, h⟩ := h
    exact ⟨p, k, b, o, m, l, 0, .inl ⟨rfl, p, k, b, o, m, rfl, rfl, rfl, rfl, rfl, h⟩⟩
  · exact ⟨0, 0, 0, 0, 0, [], 61, .inr ⟨rfl, fun p k b o m l hh => h ⟨p, k, b, o, m, l, hh⟩, rfl, rfl, rfl, rfl, rfl, rfl⟩⟩

theorem wrap_small {x : Nat} (h : x ≤ 2305843009213693952) : IntKind.i64.wrap (x : Int) = (x : Int) := by rw [IntKind.wrap_i64]; omega

theorem parse_yes (v : Value) (L : List Nat) (p k b o m : Nat) (l : List Nat) (h : IsR L p k b o m l) : ∃ vr, (∀ w, Bs w v L → Bs w vr l) ∧
    ∀ w, Bs w v L → Calls Try.prog 61 #[v] w fun e w' => e = .returned (.tuple #[.int .i64 (p : Nat), .agg #[.int .i64 (k : Nat), .int .i64 (b : Nat), .int .i64 (o : Nat), vr, .int .i64 (m : Nat)], .int .i64 0]) ∧ Below w.heap.size w w' := by
  have hl := h.len
  have r := okR_range h.1
  obtain ⟨e0, e1, e2, e3, e4, e5⟩ := h.fields
  have hM : ∀ y ∈ secR p k b o m l, y < 256 := secR_lt _ _ _ _ _ _ (by omega) (by omega) (by omega) h.2.2.1
  have hpi : IntKind.i64.wrap ((getN L 2 8 : Nat) : Int) = (p : Int) := by rw [e2]; exact wrap_small h.2.1
  by_cases h2 : k = 2
  · obtain ⟨rfl, rfl, hl0⟩ := okR_commit h.1 h2
    subst h2
    obtain rfl : l = [] := List.eq_nil_of_length_eq_zero hl0
    rw [show numR 2 0 m = m from rfl] at e3
    refine ⟨.slice none 0 0, fun w _ => Bs.nil w, fun w hv => ?_⟩
    refine parse_eq v L w hv hl (by omega) p 2 0 0 m [] (.slice none 0 0) (fun w _ => Bs.nil w) (fun w hv => ?_) (secR p 2 0 0 m []) 0 (fun w hb => bytes_yes p 2 0 0 m _ [] w hb h.2.1 h.1) hM rfl (decide_eq_true h.2.2.2)
    have := fields_C v L w hv hl e0 p hpi
    rw [e3, e4] at this
    exact this
  · obtain rfl : k = 1 := by omega
    obtain rfl := okR_patch h.1 rfl
    rw [show numR 1 b 0 = b from rfl] at e3
    have hvr : ∀ w, Bs w v L → Bs w (dataV v l.length) l := fun w hv => by
      have := dataV_bs hv hl l.length (by omega)
      rw [e5] at this
      exact this
    refine ⟨dataV v l.length, hvr, fun w hv => ?_⟩
    refine parse_eq v L w hv hl (by omega) p 1 b o 0 l (dataV v l.length) hvr (fun w hv => ?_) (secR p 1 b o 0 l) 0 (fun w hb => bytes_yes p 1 b o 0 _ l w hb h.2.1 h.1) hM rfl (decide_eq_true h.2.2.2)
    have := fields_P v L w hv hl (by omega) (by omega) p hpi
    rw [e0, e1, e3, e4] at this
    exact this

theorem parse_no (v : Value) (L : List Nat) (hlen : L.length ≤ 140737488355328) (h : NoR L) (w : World) (hv : Bs w v L) :
    Calls Try.prog 61 #[v] w fun e w' => e = .returned (.tuple #[.int .i64 0, .agg #[.int .i64 0, .int .i64 0, .int .i64 0, .slice none 0 0, .int .i64 0], .int .i64 61]) ∧ Below w.heap.size w w' := by
  have hx := hv.lt
  by_cases hl : L.length = 64
  · by_cases h1 : L.getD 1 0 ≤ 44
    · have go : ∀ (pi k b o m : Int) (l : List Nat) (vr : Value) (hvr : ∀ w, Bs w v L → Bs w vr l) (hlx : ∀ x ∈ l, x < 256) (hl44 : l.length ≤ 140737488355328)
          (hf : ∀ w, Bs w v L → Calls Try.prog 67 #[v] w fun e w' => e = .returned (.tuple #[.int .i64 pi, .agg #[.int .i64 k, .int .i64 b, .int .i64 o, vr, .int .i64 m]]) ∧ Below w.heap.size w w'),
          Calls Try.prog 61 #[v] w fun e w' => e = .returned (.tuple #[.int .i64 0, .agg #[.int .i64 0, .int .i64 0, .int .i64 0, .slice none 0 0, .int .i64 0], .int .i64 61]) ∧ Below w.heap.size w w' := by
        intro pi k b o m l vr hvr hlx hl44 hf
        obtain ⟨M, er, hM, h9⟩ := bytes_both pi k b o m l hlx hl44
        have hMx := hM.lt
        rcases hM with ⟨he, p', k', b', o', m', -, -, -, -, -, hi⟩ | ⟨he, -⟩
        · exact parse_ne v L w hv hl h1 pi k b o m l vr hvr hf M er (fun w hb => h9 _ w hb) hMx he (decide_eq_false (fun e => h p' k' b' o' m' l (e ▸ hi)))
        · exact parse_err v L w hv hl h1 pi k b o m l vr hvr hf M er (fun w hb => h9 _ w hb) hMx (by simp; omega)
      by_cases h0 : L.getD 0 0 = 2
      · exact go _ 2 0 _ _ [] (.slice none 0 0) (fun w _ => Bs.nil w) (by simp) (by simp) (fun w hv => fields_C v L w hv hl h0 _ rfl)
      · exact go _ _ _ _ 0 _ (dataV v (L.getD 1 0)) (fun w hv => dataV_bs hv hl _ h1) (fun x hx' => hx x (List.mem_of_mem_drop (List.mem_of_mem_take hx'))) (by simp; omega) (fun w hv => fields_P v L w hv hl h0 h1 _ rfl)
    · exact parse_big v L w hv hl (by omega)
  · exact parse_short v L w hv hlen hl

theorem parse_par (v : Value) (L : List Nat) (hlen : L.length ≤ 140737488355328) {p k b o m : Int} {l : List Nat} {er : Int} (h : Par L p k b o m l er) : ∃ vr, (∀ w, Bs w v L → Bs w vr l) ∧
    ∀ w, Bs w v L → Calls Try.prog 61 #[v] w fun e w' => e = .returned (.tuple #[.int .i64 p, .agg #[.int .i64 k, .int .i64 b, .int .i64 o, vr, .int .i64 m], .int .i64 er]) ∧ Below w.heap.size w w' := by
  rcases h with ⟨rfl, p', k', b', o', m', rfl, rfl, rfl, rfl, rfl, h⟩ | ⟨rfl, h, rfl, rfl, rfl, rfl, rfl, rfl⟩
  · exact parse_yes v L p' k' b' o' m' l h
  · exact ⟨.slice none 0 0, fun w _ => Bs.nil w, fun w hv => parse_no v L hlen h w hv⟩


/-- What Take answers of any bytes at any place. -/
def TakeR (L : List Nat) (q k b o m : Int) (l : List Nat) (er : Int) : Prop :=
  (er = 0 ∧ ∃ p' k' b' o' m' : Nat, q = p' ∧ k = k' ∧ b = b' ∧ o = o' ∧ m = m' ∧ IsR L p' k' b' o' m' l) ∨
  ((er = 1 ∨ er = 61) ∧ l = [] ∧ ∀ (p' k' b' o' m' : Nat) (l' : List Nat), IsR L p' k' b' o' m' l' → q ≠ p')

theorem take_both (L : List Nat) (q : Int) (hx : ∀ x ∈ L, x < 256) (hlen : L.length ≤ 140737488355328) : ∃ (k b o m : Int) (l : List Nat) (er : Int), TakeR L q k b o m l er ∧
    (∀ v w, Bs w v L → Calls Try.prog 44 #[v, .int .i64 q] w (TakeE w k b o l m er)) := by
  cases hp : placeB q with
  | false =>
    have hp2 : ¬ (0 ≤ q ∧ q ≤ 2305843009213693952) := by simpa [placeB] using hp
    refine ⟨0, 0, 0, 0, [], 1, .inr ⟨.inl rfl, rfl, fun p' k' b' o' m' l' hi e => ?_⟩, fun v w hv => take_arg v L q w hv hp⟩
    have := hi.2.1; omega
  | true =>
    have hp2 : 0 ≤ q ∧ q ≤ 2305843009213693952 := by simpa [placeB] using hp
    by_cases h : ∃ (p k b o m : Nat) (l : List Nat), IsR L p k b o m l
    · obtain ⟨p, k, b, o, m, l, h⟩ := h
      have r := okR_range h.1
      by_cases hq : (p : Int) = q
      · refine ⟨k, b, o, m, l, 0, .inl ⟨rfl, p, k, b, o, m, hq.symm, rfl, rfl, rfl, rfl, h⟩, fun v w hv => ?_⟩
        obtain ⟨vr, hvr, hc⟩ := parse_yes v L p k b o m l h
        exact take_yes v L q w hv hp p k b o m 0 l vr hvr hc (by omega) rfl (by simp [hq])
      · refine ⟨0, 0, 0, 0, [], 61, .inr ⟨.inr rfl, rfl, fun p' k' b' o' m' l' hi e => ?_⟩, fun v w hv => ?_⟩
        · have := (h.one hi).1; omega
        · obtain ⟨vr, hvr, hc⟩ := parse_yes v L p k b o m l h
          exact take_other v L q w hv hp p k b o m 0 l vr hvr hc rfl (by simpa using hq)
    · have hno : NoR L := fun p k b o m l hh => h ⟨p, k, b, o, m, l, hh⟩
      refine ⟨0, 0, 0, 0, [], 61, .inr ⟨.inr rfl, rfl, fun p' k' b' o' m' l' hi => absurd hi (hno _ _ _ _ _ _)⟩, fun v w hv => ?_⟩
      exact take_stale v L q w hv hp 0 0 0 0 0 61 [] (.slice none 0 0) (fun w _ => Bs.nil w) (fun w hv => parse_no v L hlen hno w hv) (by decide)

end Go.Proofs.Ytjhbljkoapbkfaa
