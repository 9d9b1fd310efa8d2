/- RecordBack: for every record, any two places and any bytes: Take of Bytes at its place is the record, at another one it says an error, and Bytes of what is taken of any bytes at the place that Lsn says are these bytes (P6.4, P6.5). -/
import Derived.Test.YtcfmadgehpmboaaBk
set_option linter.unusedSimpArgs false
set_option linter.unusedVariables false
namespace Go.Proofs.Ytcfmadgehpmboaa
open Go.RowKit Go.Attic Go.ChangeShapes Go.WideShapes Go.ChangeAt

theorem take_is {M : List Nat} {p k b o m : Nat} {l : List Nat} (h : IsR M p k b o m l) (v : Value) (w : World) (hv : Bs w v M) : Calls Try.prog 18 #[v, .int .i64 (p : Nat)] w (TakeE w k b o l m 0) := by
  have r := okR_range h.1
  have hp := h.2.1
  obtain ⟨vr, hvr, hc⟩ := parse_yes v M p k b o m l h
  exact take_yes v M p w hv (by simp [placeB]; omega) p k b o m 0 l vr hvr hc (by omega) rfl (by simp)
theorem lsn_is {M : List Nat} {p k b o m : Nat} {l : List Nat} (h : IsR M p k b o m l) (v : Value) (w : World) (hv : Bs w v M) : Calls Try.prog 20 #[v] w fun e w' => e = .returned (.tuple #[.int .i64 (p : Nat), .int .i64 0]) ∧ Below w.heap.size w w' := by
  obtain ⟨vr, hvr, hc⟩ := parse_yes v M p k b o m l h
  exact lsn_of v M w hv p k b o m 0 l vr hvr hc
theorem bytes_is {M : List Nat} {p k b o m : Nat} {l : List Nat} (h : IsR M p k b o m l) (v : Value) (w : World) (hv : Bs w v l) : Calls Try.prog 9 #[.int .i64 (p : Nat), .agg #[.int .i64 (k : Nat), .int .i64 (b : Nat), .int .i64 (o : Nat), v, .int .i64 (m : Nat)]] w (NewBsE w M 0) := by
  have := bytes_yes p k b o m v l w hv h.2.1 h.1
  rw [← h.2.2.2] at this
  exact this

theorem back_any (p q k b o m : Int) (va vl : Value) (la L : List Nat) (w : World) (ha : Bs w va la) (hL : Bs w vl L) (ka : la.length ≤ 140737488355328) (kL : L.length ≤ 140737488355328) :
    Calls Try.prog 5 #[.int .i64 p, .int .i64 q, .agg #[.int .i64 k, .int .i64 b, .int .i64 o, va, .int .i64 m], vl] w fun r w' => r = .returned (.bool true) ∧ Below w.heap.size w w' := by
  by_cases h1 : la.length ≤ 5000
  · by_cases h2 : L.length ≤ 5000
    · obtain ⟨M, er, hR, c9, -⟩ := bytes_both p k b o m la ha.lt ka
      obtain ⟨n, en, hN, c20, -⟩ := lsn_both L hL.lt kL
      have hM := hR.lt
      rcases hR with ⟨he, p1, k1, b1, o1, m1, rfl, rfl, rfl, rfl, rfl, hi⟩ | ⟨he, -⟩
      · have hM64 := hi.len
        obtain ⟨k2, b2, o2, m2, l2, f, hT, c18q, -⟩ := take_both M q hM (by omega)
        by_cases hpq : q = p1
        · rcases hN with ⟨hen, p', k', b', o', m', l', rfl, hj⟩ | ⟨hen, -⟩
          · exact back_sz _ _ _ _ _ _ va vl la L w ha hL ka kL h1 h2 M er hM c9 _ en c20 he hM64 (fun v w hv => take_is hi v w hv) (fun v w hv => lsn_is hi v w hv) k2 b2 o2 m2 f l2 c18q (by simp [hpq]) hen _ _ _ _ l' hj.2.2.1 (fun v w hv => take_is hj v w hv) hL.lt (fun v w hv => bytes_is hj v w hv)
          · exact back_sn _ _ _ _ _ _ va vl la L w ha hL ka kL h1 h2 M er hM c9 _ en c20 he hM64 (fun v w hv => take_is hi v w hv) (fun v w hv => lsn_is hi v w hv) k2 b2 o2 m2 f l2 c18q (by simp [hpq]) (by simp; omega)
        · have hf : (f == 0) = false := by
            rcases hT with ⟨_, p', k', b', o', m', e1, _, _, _, _, hh⟩ | ⟨hf, -⟩
            · exact absurd (by rw [e1, (hh.one hi).1]) hpq
            · simp; omega
          rcases hN with ⟨hen, p', k', b', o', m', l', rfl, hj⟩ | ⟨hen, -⟩
          · exact back_dz _ _ _ _ _ _ va vl la L w ha hL ka kL h1 h2 M er hM c9 _ en c20 he hM64 (fun v w hv => take_is hi v w hv) (fun v w hv => lsn_is hi v w hv) k2 b2 o2 m2 f l2 c18q (by simpa using hpq) hf hen _ _ _ _ l' hj.2.2.1 (fun v w hv => take_is hj v w hv) hL.lt (fun v w hv => bytes_is hj v w hv)
          · exact back_dn _ _ _ _ _ _ va vl la L w ha hL ka kL h1 h2 M er hM c9 _ en c20 he hM64 (fun v w hv => take_is hi v w hv) (fun v w hv => lsn_is hi v w hv) k2 b2 o2 m2 f l2 c18q (by simpa using hpq) hf (by simp; omega)
      · rcases hN with ⟨hen, p', k', b', o', m', l', rfl, hj⟩ | ⟨hen, -⟩
        · exact back_ez _ _ _ _ _ _ va vl la L w ha hL ka kL h1 h2 M er hM c9 _ en c20 (by simp; omega) hen _ _ _ _ l' hj.2.2.1 (fun v w hv => take_is hj v w hv) hL.lt (fun v w hv => bytes_is hj v w hv)
        · exact back_en _ _ _ _ _ _ va vl la L w ha hL ka kL h1 h2 M er hM c9 _ en c20 (by simp; omega) (by simp; omega)
    · exact back_longB _ _ _ _ _ _ va vl la L w ha hL ka kL h1 (by omega)
  · exact back_longA _ _ _ _ _ _ va vl la L w ha hL ka kL (by omega)

theorem recordBack_lifted (os : Os) (started : os.Started) (H : Type) (enc : TypeId × Value → H) :
    ReturnsInHanded {} Try.checked os 5 .any (Rows.recordBackSpec.pre6 enc Try.prog Try.f5 Rows.recordBackRow.domain false) (Rows.recordBackSpec.post enc Try.prog Try.f5 false true false false) := by
  refine law_frame (C := Try.checked) rfl Try.own started (by kernel_rfl) Try.func5
    (ChangeSpec.witness6 (enc := enc) (C := Try.checked) false ⟨#[], #[.int .i64 0, .int .i64 0, .agg #[.int .i64 0, .int .i64 0, .int .i64 0, .slice none 0 0, .int .i64 0], .slice none 0 0], []⟩ 8 (by kernel_rfl) (by kernel_rfl) (by kernel_rfl) (by kernel_rfl))
    Try.laidOut ?_ 4 rfl Try.underlying4 ?_ ?_
  · rw [Try.params5]
    intro t ht
    simp at ht
    rcases ht with rfl | rfl | rfl <;> exact ⟨by kernel_rfl, of_decide_eq_true (by kernel_rfl)⟩
  · intro ds hn
    rw [Try.params5] at hn
    match ds, hn with
    | [d1, d2, d3, d4], _ => rfl
  · intro W base args ds p hval0 hA hsz
    have hval : ∀ (j : Nat) t v, Try.f5.params[j]? = some t → args[j]? = some v → Value.okWide Try.prog W .any base t v := hval0
    rw [Try.params5] at hA hsz hval
    obtain ⟨v0, vs0, d0, ds0, p0, q0, hargs, rfl, rfl, h0, r0⟩ := trodAll_cons hA
    obtain ⟨v1, vs1, d1, ds1, p1, q1, rfl, rfl, rfl, h1, r1⟩ := trodAll_cons r0
    obtain ⟨v2, vs2, d2, ds2, p2, q2, rfl, rfl, rfl, h2, r2⟩ := trodAll_cons r1
    obtain ⟨v3, vs3, d3, ds3, p3, q3, rfl, rfl, rfl, h3, r3⟩ := trodAll_cons r2
    obtain ⟨rfl, rfl, rfl⟩ := trodAll_nil r3
    obtain rfl : args = #[v0, v1, v2, v3] := by cases args; simp_all
    obtain ⟨a0, rfl, rfl, rfl, w0⟩ := open_int Try.underlying2 (hval 0 2 v0 rfl rfl) h0
    have hb0 := bounds_i64 w0
    obtain ⟨a1, rfl, rfl, rfl, w1⟩ := open_int Try.underlying2 (hval 1 2 v1 rfl rfl) h1
    have hb1 := bounds_i64 w1
    obtain ⟨k2, b2, o2, m2, u2, l2, rfl, hbs2, hl2⟩ := cameR (hval 2 24 v2 rfl rfl) h2 hsz (j := 2) rfl rfl
    obtain ⟨l3, hbs3, hl3⟩ := Bs.came Try.underlying22 Try.underlying5 (by kernel_rfl) (hval 3 22 v3 rfl rfl) h3
    have hlen3 := came_len hsz (j := 3) (t := 22) rfl rfl Try.underlying22 (by kernel_rfl) hl3
    exact back_any a0 a1 k2 b2 o2 m2 u2 v3 l2 l3 W hbs2 hbs3 hl2 (by omega)

theorem recordBack_holds : Rows.RecordBackSaid :=
  OpenClaim.holds_of_wide 5 Try.f5 rfl rfl rfl rfl rfl rfl rfl ⟨rfl, rfl, rfl, rfl, rfl⟩ rfl rfl rfl rfl rfl (by kernel_rfl) Try.func5 (by kernel_rfl)
    (of_decide_eq_true (by kernel_rfl)) (by unfold Func.isWrapper; first | (rw [if_pos (by decide +kernel)]; kernel_rfl) | (rw [if_neg (by decide +kernel)]; exact ⟨rfl, rfl⟩))
    (fun os started H enc _ => recordBack_lifted os started H enc)
#print axioms recordBack_holds
end Go.Proofs.Ytcfmadgehpmboaa
