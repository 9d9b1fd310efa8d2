/- Contract: Append, where the disk has an error; Sync. What a log's sectors are behind what is laid. No function of the program is called here. What every sector of a disk may be, whatever is done with it. -/
import Derived.Test.YtjhbljkoapbkfaaGreatM20
import Derived.Test.YtjhbljkoapbkfaaGreatM18
set_option linter.unusedSimpArgs false
set_option linter.unusedVariables false

namespace Go.Proofs.YtjhbljkoapbkfaaGreat
open Go.RowKit Go.Attic Go.Shelf
set_option maxRecDepth 100000 in
set_option maxHeartbeats 1000000 in
theorem app_err {w : World} {r g m : Nat} {p : Option Nat} {F Fr : Nat → Prop} {n base blocks head : Nat} {s : St} {rs : List Rc} (h : RD w r g m p F Fr n base blocks head s rs) (v : Value) (l : List Rc) (Fl : Nat → Prop) (hL : Rs w Fl v l) (hlen : l.length ≤ 140737488355328) (hFl : ∀ k, Fl k → k < w.heap.size ∧ ¬ OwnR r g m F Fr k) (hpl : s.pend.length + 2000 ≤ 1000000) (hops : s.ops + 2000 ≤ 1000000) (hok : ∀ x ∈ l, okRc x) (hroom : rs.length + l.length ≤ 4 * blocks) (hlong : head + rs.length + l.length ≤ 1152921504606846976) (hzz : ¬ (layN n base blocks l.length s (head + rs.length) l).2 = 0) :
    Calls Tryz.prog 14 #[.pointer (some ⟨r, 0, none⟩), v] w fun e w' => e = .returned (.int .i64 (layN n base blocks l.length s (head + rs.length) l).2) ∧ RTurn w r g m F Fr n base blocks head (layN n base blocks l.length s (head + rs.length) l).1 rs w' := by
  have hR := h.rk
  have hb1 := hR.b1
  have hb2 := hR.b2
  have hb3 := hR.b3
  have hhd := hR.hd
  have hln := hR.ln
  have hm := gMade_yes hR
  have hrl := hR.rl
  obtain ⟨ao, cap, hv, hcap⟩ := hL.slice
  obtain ⟨L, hLL⟩ : ∃ L, l.length = L := ⟨_, rfl⟩
  rw [hLL] at hv hcap hlen
  subst hv
  have HLL := hide hLL
  have HL := hide hL
  have H := hide h
  have HR := hide hR
  clear hLL hL h hR
  go_enter Tryz.func14, Tryz.ntmps14
  go_wp2_with fail
  refine hm.mono ?_
  rintro e w' ⟨rfl, rfl⟩
  clear hm
  go_wp2_with fail
  go_loopw [16] (fun i wr => ∃ k : Nat, k ≤ L ∧ i = .int .i64 (k : Int) ∧ Below w.heap.size w wr) (fun i _ => L - (intOf i).toNat)
  case atStart => exact ⟨0, Nat.zero_le _, rfl, Below.refl _ _⟩
  case round =>
    obtain ⟨k, hk, rfl, hbr⟩ := hrel
    by_cases hkL : k < L
    · have hkl : k < l.length := by have := HLL.out; omega
      obtain ⟨-, lb, lo, u, rfl, hFb, hat, hub, huF⟩ := (HL.out.mono hbr).at k hkl
      have hokr := hok _ (List.getElem_mem hkl)
      generalize l[k] = x at *
      obtain ⟨uao, ucap, rfl, -⟩ := id hub
      have x0 := hat.c0
      have x1 := hat.c1
      have x2 := hat.c2
      have x3 := hat.c3
      have x4 := hat.c4
      have hulen : x.l.length ≤ 44 := okRc_len hokr
      have hch := fun W => check_any x.k x.b x.o x.m x.l.length ucap uao W (by omega)
      simp only [chkR_ok hokr] at hch
      clear hat hub
      go_wp2_with fail
      refine (hch _).mono ?_
      rintro e w4 ⟨rfl, hb4⟩
      go_wp2_with fail
      go_roundw
      case rel => exact ⟨k + 1, by omega, by go_num, (hbr.alloc hbr.size _).trans (hb4.mono (by have := hbr.size; simp; omega))⟩
      case measure => simp [intOf]; omega
    · obtain rfl : k = L := by omega
      clear hk hkL
      have hroomY := room_yes (HR.out.mono hbr)
      have hro : ¬ ((4 * blocks - rs.length : Nat) : Int) < (k : Int) := by have := HLL.out; omega
      have htail := fun nd => tail_yes ((HR.out.mono hbr).mono (below_drewN (Below.refl _ _) nd))
      have hlo : ((head + rs.length : Nat) : Int) + (k : Int) ≤ 1152921504606846976 := by have := HLL.out; omega
      obtain ⟨Z, hZ⟩ : ∃ Z, layN n base blocks l.length s (head + rs.length) l = Z := ⟨_, rfl⟩
      have hlay : ∀ W, Below w.heap.size w W → Calls Tryz.prog 48 #[.agg #[.pointer (some ⟨g, 0, none⟩), .int .i64 (base : Int), .int .i64 (blocks : Int)], .int .i64 ((head + rs.length : Nat) : Int), .slice ao k cap] W fun e w' => e = .returned (.int .i64 Z.2) ∧ Turn W g m F n Z.1 w' := by
        intro W hB
        have q := lay_any (H.out.dk.mono hB) hpl hops base blocks (head + rs.length) hb1 hb2 H.out.fit (by omega) _ l Fl (HL.out.mono hB) (fun b hb => ⟨Nat.lt_of_lt_of_le (hFl b hb).1 hB.size, fun h' => (hFl b hb).2 (.inl h')⟩) (by have := HLL.out; omega) hok
        rw [hZ] at q
        exact q
      rw [hZ] at hzz
      have HZ := hide hZ
      generalize 4 * blocks - rs.length = rm at *
      obtain ⟨tl, htl⟩ : ∃ tl, head + rs.length = tl := ⟨_, rfl⟩
      rw [htl] at htail hlo hlay
      have Htl := hide htl
      clear htl
      have hRr := HR.out.mono hbr
      have c0 := hRr.c0
      have c1 := hRr.c1
      have c2 := hRr.c2
      clear hZ hRr
      go_wp2_with fail
      refine hroomY.mono ?_
      rintro e w4 ⟨rfl, nd, rfl⟩
      go_wp2_with fail
      refine (htail nd).mono ?_
      rintro e w4 ⟨rfl, nd2, rfl⟩
      have htail2 : ∀ W, Below w.heap.size w W → Calls Tryz.prog 16 #[.pointer (some ⟨r, 0, none⟩)] W fun e w' => e = .returned (.int .i64 (tl : Int)) ∧ ∃ n, W.drewN n = w' := fun W hB => (tail_yes (HR.out.mono hB)).mono (by
        rintro e w' ⟨rfl, hh⟩
        exact ⟨by rw [Htl.out], hh⟩)
      have hbX : Below w.heap.size w (wr.drewN (nd + nd2)) := below_drewN hbr _
      have d0 : (wr.drewN (nd + nd2)).cell? ⟨r, 0, none⟩ = some (.pointer (some ⟨g, 0, none⟩)) := c0
      have d1 : (wr.drewN (nd + nd2)).cell? ⟨r, 1, none⟩ = some (.int .i64 (base : Int)) := c1
      have d2 : (wr.drewN (nd + nd2)).cell? ⟨r, 2, none⟩ = some (.int .i64 (blocks : Int)) := c2
      clear hroomY htail c0 c1 c2
      go_wp2_with fail
      generalize wr.drewN (nd + nd2) = X at *
      have hbXd : Below w.heap.size w X.drew := hbX.drew
      have hrXo : ¬ Own g m F r := H.out.rO
      go_region_held3 (fun w' => w'.cell? ⟨r, 0, none⟩ = some (.pointer (some ⟨g, 0, none⟩)) ∧ w'.cell? ⟨r, 1, none⟩ = some (.int .i64 (base : Int)) ∧ w'.cell? ⟨r, 2, none⟩ = some (.int .i64 (blocks : Int)))
        (first | exact ⟨d0, d1, d2⟩ | exact ⟨hkY.cell d0 hrXo, hkY.cell d1 hrXo, hkY.cell d2 hrXo⟩)
        (first
        | (go_at_call 16; refine (htail2 _ hbXd).mono ?_; rintro e X1 ⟨rfl, n1, rfl⟩)
        | (go_at_call 48; refine (hlay _ (below_drewN hbX (1 + n1))).mono ?_; rintro e Y ⟨rfl, pY, FY, hDY, hkY, hFY⟩; obtain ⟨ze, hze⟩ : ∃ ze, Z.2 = ze := ⟨_, rfl⟩; rw [hze]))
      have hkXY : Keeps (Own g m F) X Y := (Keeps.drewN X (1 + n1)).trans hkY
      have hzX : w.heap.size ≤ X.heap.size := hbX.size
      have hRY := (HR.out.mono hbX).keeps hkXY hrXo (fun b hb => H.out.ap b hb)
      have hFY' : ∀ b, FY b → F b ∨ w.heap.size ≤ b := fun b hb => (hFY b hb).imp id (fun h => by have e : (X.drewN (1 + n1)).heap.size = X.heap.size := rfl; omega)
      have hLY : Rs Y Fl (.slice ao k cap) l := (HL.out.mono hbX).keeps hkXY (fun b hb h' => (hFl b hb).2 (.inl h'))
      rename_i hHeld
      have HDY := hide hDY
      have HRY := hide hRY
      have HLY := hide hLY
      clear hHeld hDY hRY hLY hlay htail2 d0 d1 d2 hkY
      have hzn : (ze != 0) = true := by rw [← hze]; simpa using hzz
      have Hze := hide hze
      clear hze
      go_wp2_with fail
      go_ret
      rw [HZ.out]
      have hFw := H.out.dk.Fl
      have hFrw := HR.out.Fl
      have hYo : ∀ b, b < w.heap.size → Own g m FY b → Own g m F b := fun b hbw hb => by
        rcases hb with hb | hb | hb
        · exact .inl hb
        · exact .inr (.inl hb)
        · rcases hFY' b hb with h' | h'
          · exact .inr (.inr h')
          · omega
      refine ⟨by rw [Hze.out]; rfl, pY, FY, Fr, ⟨HDY.out, HRY.out, fun h' => hrXo (hYo r hrl h'), fun b hb h' => H.out.ap b hb (hYo b (hFrw b hb) h'), H.out.fit⟩, (Keeps.of_below hbX).trans (hkXY.mono (fun b hb => .inl hb)), ?_⟩
      intro b hb
      rcases hb with hb | hb
      · rcases hFY' b hb with h' | h'
        · exact .inl h'
        · exact .inr (.inr h')
      · exact .inr (.inl hb)

theorem RD.turn {w w' : World} {r g m : Nat} {p : Option Nat} {F Fr : Nat → Prop} {n base blocks head : Nat} {s s' : St} {rs : List Rc} (h : RD w r g m p F Fr n base blocks head s rs) (ht : Turn w g m F n s' w') : RTurn w r g m F Fr n base blocks head s' rs w' := by
  obtain ⟨p', F', hD, hk, hF'⟩ := ht
  have hrl := h.rk.rl
  have hFrw := h.rk.Fl
  have hYo : ∀ b, b < w.heap.size → Own g m F' b → Own g m F b := fun b hbw hb => by
    rcases hb with hb | hb | hb
    · exact .inl hb
    · exact .inr (.inl hb)
    · rcases hF' b hb with h' | h'
      · exact .inr (.inr h')
      · omega
  refine ⟨p', F', Fr, ⟨hD, h.rk.keeps hk h.rO h.ap, fun h' => h.rO (hYo r hrl h'), fun b hb h' => h.ap b hb (hYo b (hFrw b hb) h'), h.fit⟩, hk.mono (fun b hb => .inl hb), fun b hb => ?_⟩
  rcases hb with hb | hb
  · rcases hF' b hb with h' | h'
    · exact .inl h'
    · exact .inr (.inr h')
  · exact .inr (.inl hb)

set_option maxRecDepth 100000 in
set_option maxHeartbeats 400000 in
theorem sync_yes {w : World} {r g m : Nat} {p : Option Nat} {F Fr : Nat → Prop} {n base blocks head : Nat} {s : St} {rs : List Rc} (h : RD w r g m p F Fr n base blocks head s rs) (hpl : s.pend.length ≤ 1000000) (ho : s.ops ≤ 1000000) :
    Calls Tryz.prog 20 #[.pointer (some ⟨r, 0, none⟩)] w fun e w' => e = .returned (.int .i64 (flushS s).2) ∧ RTurn w r g m F Fr n base blocks head (flushS s).1 rs w' := by
  have hm := gMade_yes h.rk
  have c0 := h.rk.c0
  have hf := flush_yes h.dk hpl ho
  have H := hide h
  obtain ⟨X, hX⟩ : ∃ X, flushS s = X := ⟨_, rfl⟩
  rw [hX] at hf ⊢
  clear h hX
  go_enter Tryz.func20, Tryz.ntmps20
  go_wp2_with fail
  refine hm.mono ?_
  rintro e w' ⟨rfl, rfl⟩
  go_wp2_with fail
  refine hf.mono ?_
  rintro e w' ⟨rfl, ht⟩
  go_wp2_with fail
  go_ret
  exact ⟨by simp, H.out.turn ht⟩


end Go.Proofs.YtjhbljkoapbkfaaGreat

namespace Go.Proofs.YtjhbljkoapbkfaaGreat
open Go.RowKit Go.Attic Go.Shelf

theorem blockL_getD (med : List Nat) (i j : Nat) (hj : j < 256) : (blockL med i).getD j 0 = med.getD (256 * i + j) 0 := by
  simp [blockL, List.getD_eq_getElem?_getD, List.getElem?_take, hj, List.getElem?_drop]
theorem blockL_length (med : List Nat) (i n : Nat) (hi : i < n) (hl : med.length = 256 * n) : (blockL med i).length = 256 := by
  simp [blockL]; omega

theorem testBit15 (k : Nat) (hk : k < 4) : (15 : Nat).testBit k = true := by
  match k, hk with
  | 0, _ => rfl
  | 1, _ => rfl
  | 2, _ => rfl
  | 3, _ => rfl

theorem blockL_reach (med : List Nat) (b : Nat) (bytes : List Nat) (i n : Nat) (hi : i < n) (hl : med.length = 256 * n) (hb : bytes.length = 256) : blockL (reachL med b bytes 15) i = if b = i then bytes else blockL med i := by
  have hlen : (blockL (reachL med b bytes 15) i).length = 256 := blockL_length _ _ n hi (by rw [reachL_length, hl])
  refine ext_getD ?_ fun j hj => ?_
  · rw [hlen]
    split
    · exact hb.symm
    · exact (blockL_length _ _ n hi hl).symm
  · rw [hlen] at hj
    rw [blockL_getD _ _ _ hj]
    unfold reachL
    rw [reachK_getD _ _ _ _ _ _ (by omega)]
    have e1 : (256 * i + j) / 256 = i := by omega
    have e2 : (256 * i + j) % 256 = j := by omega
    rw [e1, e2]
    by_cases h : b = i
    · rw [if_pos h, if_pos ⟨h.symm, by omega, testBit15 _ (by omega)⟩]
    · rw [if_neg h, if_neg (by intro hh; exact h hh.1.symm), blockL_getD _ _ _ hj]

theorem blockL_settle (ps : List (Nat × List Nat)) (med : List Nat) (i n : Nat) (hi : i < n) (hl : med.length = 256 * n) (hp : ∀ x ∈ ps, x.2.length = 256) : blockL (settleL med ps (List.replicate ps.length 15)) i = (lastW ps i).getD (blockL med i) := by
  induction ps generalizing med with
  | nil => simp [settleL, lastW]
  | cons x ps ih =>
    simp only [List.length_cons, List.replicate_succ, settleL]
    rw [ih _ (by rw [reachL_length, hl]) (fun y hy => hp y (by simp [hy])), blockL_reach _ _ _ _ n hi hl (hp x (by simp))]
    simp only [lastW]
    cases lastW ps i with
    | some l => rfl
    | none =>
      by_cases h : x.1 = i
      · simp [h]
      · simp [h]

theorem readL_push (s : St) (o b : Nat) (x : List Nat) (i : Nat) : readL { s with ops := o, pend := s.pend ++ [(b, x)] } i = if b = i then x else readL s i := by
  simp only [readL, lastW_append]
  split <;> simp_all

theorem secOf_getD (bytes : List Nat) (m i : Nat) (hi : i < 64) : (secOf bytes m).getD i 0 = bytes.getD (m % 4 * 64 + i) 0 := by
  simp [secOf, List.getD_eq_getElem?_getD, List.getElem?_take, hi, List.getElem?_drop]
theorem secOf_mod (bytes : List Nat) (m : Nat) : secOf bytes (m % 4) = secOf bytes m := by simp [secOf]
theorem secOf_splice (bytes sec : List Nat) (t m : Nat) (hb : bytes.length = 256) (hs : sec.length = 64) : secOf (splice bytes (t % 4 * 64) sec) m = if t % 4 = m % 4 then sec else secOf bytes m := by
  have hl : (splice bytes (t % 4 * 64) sec).length = 256 := by rw [length_splice _ _ _ (by omega)]; exact hb
  have h64 : ∀ m', (secOf bytes m').length = 64 := fun m' => secOf_length hb m'
  have h2 := secOf_length hl m
  refine ext_getD (by rw [h2]; split; exact hs.symm; exact (h64 _).symm) fun i hi => ?_
  rw [h2] at hi
  rw [secOf_getD _ _ _ hi, splice_getD _ _ _ _ (by omega)]
  by_cases he : t % 4 = m % 4
  · rw [if_pos he, if_pos (by omega)]
    congr 1; omega
  · rw [if_neg he, if_neg (by omega), secOf_getD _ _ _ hi]

theorem secOf_layB (rs : List Rc) (bytes : List Nat) (t : Nat) (hb : bytes.length = 256) (hok : ∀ r ∈ rs, okRc r) (h4 : t % 4 + rs.length ≤ 4) :
    (∀ i (h : i < rs.length), secOf (layB bytes t rs) (t + i) = secRc (t + i) rs[i]) ∧ ∀ m, (∀ i, i < rs.length → (t + i) % 4 ≠ m % 4) → secOf (layB bytes t rs) m = secOf bytes m := by
  induction rs generalizing bytes t with
  | nil => exact ⟨fun i h => by simp at h, fun m _ => rfl⟩
  | cons r rs ih =>
    have hs := secRc_length (n := t) (hok r (by simp))
    have hl : (splice bytes (t % 4 * 64) (secRc t r)).length = 256 := by rw [length_splice _ _ _ (by omega)]; exact hb
    simp only [List.length_cons] at h4
    have h4' : (t + 1) % 4 + rs.length ≤ 4 := by
      rcases Nat.eq_zero_or_pos rs.length with h0 | h0 <;> omega
    obtain ⟨i1, i2⟩ := ih (splice bytes (t % 4 * 64) (secRc t r)) (t + 1) hl (fun x hx => hok x (by simp [hx])) h4'
    refine ⟨fun i hi => ?_, fun m hm => ?_⟩
    · cases i with
      | zero =>
        show secOf (layB (splice bytes (t % 4 * 64) (secRc t r)) (t + 1) rs) t = _
        rw [i2 t (fun j hj => by simp only [List.length_cons] at hi; omega), secOf_splice _ _ _ _ hb hs, if_pos rfl]
        rfl
      | succ i =>
        have := i1 i (by simpa using hi)
        simp only [List.getElem_cons_succ]
        rw [show t + (i + 1) = t + 1 + i by omega]
        exact this
    · show secOf (layB (splice bytes (t % 4 * 64) (secRc t r)) (t + 1) rs) m = _
      rw [i2 m (fun j hj => by have := hm (j + 1) (by simp; omega); rw [show t + 1 + j = t + (j + 1) by omega]; exact this), secOf_splice _ _ _ _ hb hs, if_neg (by have := hm 0 (by simp); simpa using this)]

theorem pos_eq (b m m' : Nat) : m % (4 * b) = m' % (4 * b) ↔ m / 4 % b = m' / 4 % b ∧ m % 4 = m' % 4 := by
  rw [Nat.mod_mul, Nat.mod_mul]
  constructor
  · intro h; constructor <;> omega
  · rintro ⟨h1, h2⟩; rw [h1, h2]

theorem mod_ne (b x y : Nat) (h1 : x < y) (h2 : y < x + b) : x % b ≠ y % b := by
  intro h
  have hb : 0 < b := by omega
  have e1 := Nat.div_add_mod x b
  have e2 := Nat.div_add_mod y b
  have : b * (y / b) - b * (x / b) = y - x := by omega
  have h3 : b * (y / b) = b * (x / b) + (y - x) := by omega
  have h4 : x / b < y / b := by
    rcases Nat.lt_or_ge (x / b) (y / b) with h | h
    · exact h
    · have := Nat.mul_le_mul_left b h; omega
  have := Nat.mul_le_mul_left b h4
  rw [Nat.mul_succ] at this
  omega

theorem secAt_mod {s : St} {base blocks m m' : Nat} (h : m % (4 * blocks) = m' % (4 * blocks)) : secAt s base blocks m = secAt s base blocks m' := by
  obtain ⟨h1, h2⟩ := (pos_eq _ _ _).1 h
  unfold secAt secOf
  rw [h1, h2]

/-- A log laid on a disk that has the power and is not armed. -/
theorem lay_view {n base blocks : Nat} (hb1 : 1 ≤ blocks) (hfit : base + blocks ≤ n) : ∀ (f : Nat) (s : St) (t : Nat) (rs : List Rc), rs.length ≤ f → s.Ok n → s.on = true → s.left = 0 → (∀ r ∈ rs, okRc r) → (∀ r ∈ rs, ∀ x ∈ r.l, x < 256) → rs.length ≤ 4 * blocks →
    ∃ s', layN n base blocks f s t rs = (s', 0) ∧ s'.Ok n ∧ s'.on = true ∧ s'.left = 0 ∧ s'.med = s.med ∧ s'.pend.length ≤ s.pend.length + rs.length ∧ s'.ops ≤ s.ops + rs.length ∧
      (∀ i (h : i < rs.length), secAt s' base blocks (t + i) = secRc (t + i) rs[i]) ∧ ∀ m, (∀ i, i < rs.length → (t + i) % (4 * blocks) ≠ m % (4 * blocks)) → secAt s' base blocks m = secAt s base blocks m := by
  intro f
  induction f with
  | zero =>
    intro s t rs hf hs hon hl hok hlt hr
    have : rs = [] := List.eq_nil_of_length_eq_zero (by omega)
    subst this
    exact ⟨s, rfl, hs, hon, hl, rfl, by simp, by simp, fun i h => by simp at h, fun m _ => rfl⟩
  | succ f ih =>
    intro s t rs hf hs hon hl hok hlt hr
    by_cases h0 : rs.length = 0
    · have : rs = [] := List.eq_nil_of_length_eq_zero h0
      subst this
      exact ⟨s, layN_nil rfl, hs, hon, hl, rfl, by simp, by simp, fun i h => by simp at h, fun m _ => rfl⟩
    · obtain ⟨c, hc⟩ : ∃ c, min rs.length (4 - t % 4) = c := ⟨_, rfl⟩
      have hc1 : 1 ≤ c ∧ c ≤ rs.length ∧ t % 4 + c ≤ 4 := by omega
      obtain ⟨b0, hb0⟩ : ∃ b0, base + t / 4 % blocks = b0 := ⟨_, rfl⟩
      have hb0n : b0 < n := by have : t / 4 % blocks < blocks := Nat.mod_lt _ (by omega)
                               omega
      obtain ⟨hR1, hR2⟩ := readL_ok hs hb0n
      have htl : (rs.take c).length = c := by simp; omega
      have hok1 : ∀ r ∈ rs.take c, okRc r := fun r hr => hok r (List.mem_of_mem_take hr)
      have hlt1 : ∀ r ∈ rs.take c, ∀ x ∈ r.l, x < 256 := fun r hr => hlt r (List.mem_of_mem_take hr)
      have hxl := layB_length (readL s b0) t (rs.take c) hR1 hok1
      have hxlt := layB_lt (readL s b0) t (rs.take c) hR2 hok1 hlt1
      obtain ⟨k1, k2⟩ := secOf_layB (rs.take c) (readL s b0) t hR1 hok1 (by omega)
      obtain ⟨x, hx⟩ : ∃ x, layB (readL s b0) t (rs.take c) = x := ⟨_, rfl⟩
      rw [hx] at hxl hxlt k1 k2
      have hw : writeS s n ((b0 : Nat) : Int) x = ({ s with ops := s.ops + 1, pend := s.pend ++ [(b0, x)] }, 0) := by
        have hin : inS n (b0 : Int) = true := by simp [inS]; omega
        simp [writeS, hon, hin, hxl, operS, hl]
      have hgo := layN_go (n := n) (f := f) (base := base) (blocks := blocks) (t := t) (s := s) (rs := rs) (c := c) (b := x) (by omega) hon hc (by rw [hb0]; exact hx) (by rw [hb0, hw])
      rw [hb0, hw] at hgo
      have hs1 : ({ s with ops := s.ops + 1, pend := s.pend ++ [(b0, x)] } : St).Ok n := ⟨hs.len, hs.n1, hs.n2, hs.lt, fun y hy => by
        simp only [List.mem_append, List.mem_singleton] at hy
        rcases hy with hy | rfl
        · exact hs.pend y hy
        · exact ⟨hb0n, hxl, hxlt⟩, hs.left, hs.picks⟩
      obtain ⟨s', e1, e2, e3, e4, e5, e6, e7, e8, e9⟩ := ih { s with ops := s.ops + 1, pend := s.pend ++ [(b0, x)] } (t + c) (rs.drop c) (by simp; omega) hs1 hon hl (fun r hr => hok r (List.mem_of_mem_drop hr)) (fun r hr => hlt r (List.mem_of_mem_drop hr)) (by simp; omega)
      have hdl : (rs.drop c).length = rs.length - c := by simp
      have hview : ∀ m, secAt { s with ops := s.ops + 1, pend := s.pend ++ [(b0, x)] } base blocks m = if m / 4 % blocks = t / 4 % blocks then secOf x m else secAt s base blocks m := by
        intro m
        unfold secAt
        rw [readL_push]
        by_cases he : m / 4 % blocks = t / 4 % blocks
        · rw [if_pos he, if_pos (by omega)]
        · rw [if_neg he, if_neg (by omega)]
      refine ⟨s', by rw [hgo]; exact e1, e2, e3, e4, e5, ?_, ?_, ?_, ?_⟩
      · simp only [List.length_append, List.length_singleton] at e6; omega
      · simp only at e7; omega
      · intro i hi
        by_cases hic : i < c
        · rw [e9 (t + i) (fun j hj => (mod_ne _ _ _ (by omega) (by omega)).symm), hview, if_pos (by rw [show (t + i) / 4 = t / 4 by omega]), k1 i (by omega)]
          congr 1
          simp
        · have := e8 (i - c) (by omega)
          rw [show t + c + (i - c) = t + i by omega] at this
          rw [this]
          congr 1
          simp only [List.getElem_drop]
          congr 1
          omega
      · intro m hm
        rw [e9 m (fun j hj => by have := hm (c + j) (by omega); rw [show t + c + j = t + (c + j) by omega]; exact this), hview]
        by_cases he : m / 4 % blocks = t / 4 % blocks
        · rw [if_pos he, k2 m (fun i hi e => hm i (by omega) ((pos_eq _ _ _).2 ⟨by rw [show (t + i) / 4 = t / 4 by omega]; exact he.symm, e⟩))]
          unfold secAt
          rw [he, hb0]
        · rw [if_neg he]


end Go.Proofs.YtjhbljkoapbkfaaGreat

namespace Go.Proofs.YtjhbljkoapbkfaaGreat
open Go.RowKit Go.Attic Go.Shelf

/-- Whatever sector the disk holds, in its medium or pending, is one that may be there. -/
def AllSec (n : Nat) (Q : Nat → Nat → List Nat → Prop) (s : St) : Prop :=
  (∀ b, b < n → ∀ k, k < 4 → Q b k (secOf (blockL s.med b) k)) ∧ ∀ x ∈ s.pend, ∀ k, k < 4 → Q x.1 k (secOf x.2 k)

theorem lastW_mem {ps : List (Nat × List Nat)} {i : Nat} {l : List Nat} (h : lastW ps i = some l) : (i, l) ∈ ps := by
  induction ps with
  | nil => cases h
  | cons w ps ih =>
    simp only [lastW] at h
    cases hw : lastW ps i with
    | some l' => rw [hw] at h; injection h with h; subst h; simp [ih hw]
    | none =>
      rw [hw] at h
      by_cases hb : w.1 = i
      · simp only [hb] at h; injection h with h; obtain ⟨a, c⟩ := w; dsimp only at hb h; subst hb h; simp
      · simp [hb] at h

theorem view_all {n : Nat} {Q : Nat → Nat → List Nat → Prop} {s : St} (h : AllSec n Q s) {b k : Nat} (hb : b < n) (hk : k < 4) : Q b k (secOf (readL s b) k) := by
  unfold readL
  cases hw : lastW s.pend b with
  | some l => exact h.2 _ (lastW_mem hw) k hk
  | none => exact h.1 b hb k hk

theorem sec_reach (med : List Nat) (b : Nat) (bytes : List Nat) (pick n i k : Nat) (hi : i < n) (hk : k < 4) (hl : med.length = 256 * n) (hb : bytes.length = 256) :
    secOf (blockL (reachL med b bytes pick) i) k = if b = i ∧ pick.testBit k = true then secOf bytes k else secOf (blockL med i) k := by
  have hl' : (reachL med b bytes pick).length = 256 * n := by rw [reachL_length]; exact hl
  have hB := blockL_length _ i n hi hl'
  have hM := blockL_length _ i n hi hl
  refine ext_getD ?_ fun j hj => ?_
  · rw [secOf_length hB]; split
    · rw [secOf_length hb]
    · rw [secOf_length hM]
  · rw [secOf_length hB] at hj
    have e1 : 256 * i + (k % 4 * 64 + j) < med.length := by omega
    rw [secOf_getD _ _ _ hj, blockL_getD _ _ _ (by omega)]
    unfold reachL
    rw [reachK_getD _ _ _ _ _ _ e1]
    have e2 : (256 * i + (k % 4 * 64 + j)) / 256 = i := by omega
    have e3 : (256 * i + (k % 4 * 64 + j)) % 256 = k * 64 + j := by omega
    have e4 : (k * 64 + j) / 64 = k := by omega
    rw [e2, e3, e4]
    by_cases hc : b = i ∧ pick.testBit k = true
    · rw [if_pos ⟨hc.1.symm, hk, hc.2⟩, if_pos hc, secOf_getD _ _ _ hj]
      congr 1; omega
    · rw [if_neg (fun h => hc ⟨h.1.symm, h.2.2⟩), if_neg hc, secOf_getD _ _ _ hj, blockL_getD _ _ _ (by omega)]

theorem settle_all {n : Nat} {Q : Nat → Nat → List Nat → Prop} (ps : List (Nat × List Nat)) : ∀ (med : List Nat) (ks : List Nat), med.length = 256 * n → (∀ x ∈ ps, x.2.length = 256) → (∀ b, b < n → ∀ k, k < 4 → Q b k (secOf (blockL med b) k)) → (∀ x ∈ ps, ∀ k, k < 4 → Q x.1 k (secOf x.2 k)) →
    ∀ b, b < n → ∀ k, k < 4 → Q b k (secOf (blockL (settleL med ps ks) b) k) := by
  induction ps with
  | nil => intro med ks _ _ h1 _; simpa [settleL] using h1
  | cons w ps ih =>
    intro med ks hl hp h1 h2
    cases ks with
    | nil => simpa [settleL] using h1
    | cons k0 ks =>
      rw [settleL]
      refine ih _ ks (by rw [reachL_length]; exact hl) (fun x hx => hp x (by simp [hx])) (fun b hb k hk => ?_) (fun x hx => h2 x (by simp [hx]))
      rw [sec_reach _ _ _ _ n _ _ hb hk hl (hp w (by simp))]
      split
      · rename_i h; rw [← h.1]; exact h2 w (by simp) k hk
      · exact h1 b hb k hk

theorem crashed_all {n : Nat} {Q : Nat → Nat → List Nat → Prop} {s : St} (h : AllSec n Q s) (hs : s.Ok n) (picks : List Nat) : AllSec n Q (crashed s picks) :=
  ⟨settle_all s.pend s.med picks hs.len (fun x hx => (hs.pend x hx).2.1) h.1 h.2, fun x hx => by simp [crashed] at hx⟩
theorem operS_all {n : Nat} {Q : Nat → Nat → List Nat → Prop} {s : St} (h : AllSec n Q s) (hs : s.Ok n) : AllSec n Q (operS s).1 ∧ (operS s).1.Ok n := by
  unfold operS
  split
  · exact ⟨h, ⟨hs.len, hs.n1, hs.n2, hs.lt, hs.pend, hs.left, hs.picks⟩⟩
  · split
    · exact ⟨crashed_all (s := { s with ops := s.ops + 1 }) h ⟨hs.len, hs.n1, hs.n2, hs.lt, hs.pend, hs.left, hs.picks⟩ _, St.Ok.crashed (s := { s with ops := s.ops + 1 }) ⟨hs.len, hs.n1, hs.n2, hs.lt, hs.pend, hs.left, hs.picks⟩ _⟩
    · exact ⟨h, ⟨hs.len, hs.n1, hs.n2, hs.lt, hs.pend, by have := hs.left; simp only; omega, hs.picks⟩⟩
theorem writeS_all {n : Nat} {Q : Nat → Nat → List Nat → Prop} {s : St} (h : AllSec n Q s) (hs : s.Ok n) (b : Nat) (x : List Nat) (hb : b < n) (hlt : ∀ y ∈ x, y < 256) (hx : ∀ k, k < 4 → Q b k (secOf x k)) : AllSec n Q (writeS s n (b : Int) x).1 ∧ (writeS s n (b : Int) x).1.Ok n := by
  unfold writeS
  split
  · exact ⟨h, hs⟩
  · split
    · exact ⟨h, hs⟩
    · split
      · exact ⟨h, hs⟩
      · rename_i hl
        refine operS_all (s := { s with pend := s.pend ++ [((b : Int).toNat, x)] }) ⟨h.1, fun y hy k hk => ?_⟩ ⟨hs.len, hs.n1, hs.n2, hs.lt, fun y hy => ?_, hs.left, hs.picks⟩
        · simp only [Int.toNat_natCast, List.mem_append, List.mem_singleton] at hy
          rcases hy with hy | rfl
          · exact h.2 y hy k hk
          · exact hx k hk
        · simp only [Int.toNat_natCast, List.mem_append, List.mem_singleton] at hy
          rcases hy with hy | rfl
          · exact hs.pend y hy
          · exact ⟨hb, by simpa using hl, hlt⟩
theorem flushS_all {n : Nat} {Q : Nat → Nat → List Nat → Prop} {s : St} (h : AllSec n Q s) (hs : s.Ok n) : AllSec n Q (flushS s).1 := by
  unfold flushS
  split
  · exact h
  · split
    · exact (operS_all h hs).1
    · exact ⟨settle_all s.pend s.med _ hs.len (fun x hx => (hs.pend x hx).2.1) h.1 h.2, fun x hx => by simp at hx⟩
theorem armS_all {n : Nat} {Q : Nat → Nat → List Nat → Prop} {s : St} (h : AllSec n Q s) (i : Int) (picks : List Nat) : AllSec n Q (armS s i picks).1 := by
  unfold armS
  split
  · exact h
  · split
    · exact h
    · split <;> exact h
theorem crashS_all {n : Nat} {Q : Nat → Nat → List Nat → Prop} {s : St} (h : AllSec n Q s) (hs : s.Ok n) (picks : List Nat) : AllSec n Q (crashS s picks).1 := by
  unfold crashS
  split
  · exact h
  · exact crashed_all h hs picks
theorem restartS_all {n : Nat} {Q : Nat → Nat → List Nat → Prop} {s : St} (h : AllSec n Q s) : AllSec n Q (restartS s).1 := by
  unfold restartS
  split <;> exact h
theorem AllSec.mono {n : Nat} {Q Q' : Nat → Nat → List Nat → Prop} {s : St} (h : AllSec n Q s) (hQ : ∀ b k c, Q b k c → Q' b k c) : AllSec n Q' s :=
  ⟨fun b hb k hk => hQ _ _ _ (h.1 b hb k hk), fun x hx k hk => hQ _ _ _ (h.2 x hx k hk)⟩

theorem lay_all {n base blocks : Nat} {Q : Nat → Nat → List Nat → Prop} (hb1 : 1 ≤ blocks) (hfit : base + blocks ≤ n) : ∀ (f : Nat) (s : St) (t : Nat) (rs : List Rc), s.Ok n → AllSec n Q s → (∀ r ∈ rs, okRc r) → (∀ r ∈ rs, ∀ x ∈ r.l, x < 256) →
    (∀ i (h : i < rs.length), Q (base + (t + i) / 4 % blocks) ((t + i) % 4) (secRc (t + i) rs[i])) → AllSec n Q (layN n base blocks f s t rs).1 := by
  intro f
  induction f with
  | zero => intro s t rs hs h _ _ _; exact h
  | succ f ih =>
    intro s t rs hs h hok hlt hQ
    by_cases h0 : rs.length = 0
    · rw [layN_nil h0]; exact h
    · cases hon : s.on with
      | false => rw [layN_off (by omega) hon]; exact h
      | true =>
        obtain ⟨c, hc⟩ : ∃ c, min rs.length (4 - t % 4) = c := ⟨_, rfl⟩
        have hc1 : 1 ≤ c ∧ c ≤ rs.length ∧ t % 4 + c ≤ 4 := by omega
        obtain ⟨b0, hb0⟩ : ∃ b0, base + t / 4 % blocks = b0 := ⟨_, rfl⟩
        have hb0n : b0 < n := by have : t / 4 % blocks < blocks := Nat.mod_lt _ (by omega)
                                 omega
        obtain ⟨hR1, hR2⟩ := readL_ok hs hb0n
        have htl : (rs.take c).length = c := by simp; omega
        have hok1 : ∀ r ∈ rs.take c, okRc r := fun r hr => hok r (List.mem_of_mem_take hr)
        have hlt1 : ∀ r ∈ rs.take c, ∀ x ∈ r.l, x < 256 := fun r hr => hlt r (List.mem_of_mem_take hr)
        have hxlt := layB_lt (readL s b0) t (rs.take c) hR2 hok1 hlt1
        obtain ⟨k1, k2⟩ := secOf_layB (rs.take c) (readL s b0) t hR1 hok1 (by omega)
        obtain ⟨x, hx⟩ : ∃ x, layB (readL s b0) t (rs.take c) = x := ⟨_, rfl⟩
        rw [hx] at hxlt k1 k2
        have hxQ : ∀ k, k < 4 → Q b0 k (secOf x k) := by
          intro k hk
          by_cases he : ∃ i, i < c ∧ (t + i) % 4 = k
          · obtain ⟨i, hi, rfl⟩ := he
            rw [secOf_mod, k1 i (by omega)]
            have := hQ i (by omega)
            rw [show (t + i) / 4 = t / 4 by omega, hb0] at this
            simpa using this
          · rw [k2 k (fun i hi e => he ⟨i, by omega, by omega⟩)]
            exact view_all h hb0n hk
        obtain ⟨hA, hA2⟩ := writeS_all h hs b0 x hb0n hxlt hxQ
        by_cases he : (writeS s n (b0 : Int) x).2 = 0
        · have hgo := layN_go (n := n) (f := f) (base := base) (blocks := blocks) (t := t) (s := s) (rs := rs) (c := c) (b := x) (by omega) hon hc (by rw [hb0]; exact hx) (by rw [hb0]; exact he)
          rw [hgo, hb0]
          refine ih _ _ _ hA2 hA (fun r hr => hok r (List.mem_of_mem_drop hr)) (fun r hr => hlt r (List.mem_of_mem_drop hr)) (fun i hi => ?_)
          have := hQ (c + i) (by simp at hi; omega)
          rw [show t + (c + i) = t + c + i by omega] at this
          simpa using this
        · have hgo := layN_err (n := n) (f := f) (base := base) (blocks := blocks) (t := t) (s := s) (rs := rs) (c := c) (b := x) (by omega) hon hc (by rw [hb0]; exact hx) (by rw [hb0]; exact he)
          rw [hgo, hb0]
          exact hA

/-- Noughts are no record. -/
theorem zeros_no (n : Nat) : NoRc (List.replicate 64 0) n := by
  rintro r ⟨k, b, o, m, l, rfl, h⟩
  have h1 := h.fields.1
  have h2 := (okR_range h.1).1
  have : (List.replicate 64 0).getD 0 0 = 0 := rfl
  omega
theorem blockL_new (n b : Nat) (hb : b < n) (k : Nat) : secOf (blockL (newS n).med b) k = List.replicate 64 0 := by
  have hl : (newS n).med.length = 256 * n := by simp [newS, ofS]; omega
  have hB := blockL_length (newS n).med b n hb hl
  refine ext_getD (by rw [secOf_length hB]; rfl) fun j hj => ?_
  rw [secOf_length hB] at hj
  rw [secOf_getD _ _ _ hj, blockL_getD _ _ _ (by omega)]
  have : ∀ (N i : Nat), (List.replicate N 0).getD i 0 = 0 := by
    intro N i
    rw [List.getD_eq_getElem?_getD, List.getElem?_replicate]
    split <;> rfl
  rw [this 64]
  exact this _ _
theorem newS_all (n : Nat) (Q : Nat → Nat → List Nat → Prop) (hQ : ∀ b k, b < n → k < 4 → Q b k (List.replicate 64 0)) : AllSec n Q (newS n) :=
  ⟨fun b hb k hk => by rw [blockL_new n b hb]; exact hQ b k hb hk, fun x hx => by simp [newS, ofS] at hx⟩


end Go.Proofs.YtjhbljkoapbkfaaGreat
