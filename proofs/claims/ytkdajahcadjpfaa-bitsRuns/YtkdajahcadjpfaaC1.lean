/- Contracts of the small functions: isSize, bytesOf, bitsOf, has, bits.Get, atticref02.Get, bytes.Equal, bytes.Clone, own. -/
import Derived.Test.YtkdajahcadjpfaaRows
import Derived.Test.YtkdajahcadjpfaaPure
import Derived.BigQuiet
set_option linter.unusedSimpArgs false
set_option linter.unusedVariables false
namespace Go.Proofs.Ytkdajahcadjpfaa
open Go.RowKit Go.Attic

theorem Try.own : ownKnob Try.prog.godebug = none := by kernel_rfl
theorem Try.laidOut : laidOutB Try.prog = true := by kernel_rfl
theorem Try.info5 : (Try.prog.info? 5).map (fun i => (i.zero, i.size, i.bytes)) = some (some (.int .u8 0), 1, 1) := by kernel_rfl

theorem ret_int {k : IntKind} {a b : Int} (h : a = b) : Ending.returned (.int k a) = .returned (.int k b) := by rw [h]
theorem ret_bool {a b : Bool} (h : a = b) : Ending.returned (.bool a) = .returned (.bool b) := by rw [h]

set_option maxHeartbeats 400000 in
theorem isSize_any (n : Int) (w : World) : Calls Try.prog 40 #[.int .i64 n] w fun e w' => e = .returned (.bool (sizeB n)) ∧ w = w' := by
  by_cases h1 : 0 ≤ n
  · by_cases h2 : n ≤ 65536
    · have h3 : sizeB n = true := by simp [sizeB, h1, h2]
      rw [h3]; clear h3
      go_enter Try.func40, Try.ntmps40
      go_wp2
      go_ret
      exact ⟨by simp, rfl⟩
    · have h3 : sizeB n = false := by simp [sizeB]; omega
      rw [h3]; clear h3
      go_enter Try.func40, Try.ntmps40
      go_wp2
      go_ret
      exact ⟨by simp, rfl⟩
  · have h3 : sizeB n = false := by simp [sizeB]; omega
    rw [h3]; clear h3
    go_enter Try.func40, Try.ntmps40
    go_wp2
    go_ret
    exact ⟨by simp, rfl⟩

set_option maxHeartbeats 400000 in
theorem bytesOf_any (n : Int) (w : World) (h0 : 0 ≤ n) (h1 : n ≤ 4611686018427387904) : Calls Try.prog 41 #[.int .i64 n] w fun e w' => e = .returned (.int .i64 ((n + 7) / 8)) ∧ w = w' := by
  go_enter Try.func41, Try.ntmps41
  go_wp2
  go_ret
  exact ⟨ret_int (by omega), rfl⟩

set_option maxHeartbeats 400000 in
theorem bitsOf_any (v : Value) (l : List Nat) (w : World) (h : Bs w v l) (hlen : l.length ≤ 140737488355328) : Calls Try.prog 42 #[v] w fun e w' => e = .returned (.int .i64 (8 * (l.length : Int))) ∧ w = w' := by
  obtain ⟨ao, cap, rfl, hl, hnn, hx, hc⟩ := h
  clear hc
  go_enter Try.func42, Try.ntmps42
  go_wp2
  go_ret
  exact ⟨ret_int (by omega), rfl⟩

set_option maxHeartbeats 400000 in
theorem has_any (v : Value) (l : List Nat) (i : Int) (w : World) (h : Bs w v l) (hlen : l.length ≤ 140737488355328) : Calls Try.prog 45 #[v, .int .i64 i] w fun e w' => e = .returned (.bool (hasB l i)) ∧ w = w' := by
  by_cases h1 : 0 ≤ i
  · by_cases h2 : i < (8 * (l.length : Int))
    · have h3 : hasB l i = true := by simp [hasB, h1, h2]
      rw [h3]; clear h3
      go_enter Try.func45, Try.ntmps45
      go_wp2_with (go_at_call 42; refine (bitsOf_any _ l _ h hlen).mono ?_; rintro e w' ⟨rfl, rfl⟩)
      go_ret
      exact ⟨by simp, rfl⟩
    · have h3 : hasB l i = false := by simp [hasB, h2]
      rw [h3]; clear h3
      go_enter Try.func45, Try.ntmps45
      go_wp2_with (go_at_call 42; refine (bitsOf_any _ l _ h hlen).mono ?_; rintro e w' ⟨rfl, rfl⟩)
      go_ret
      exact ⟨by simp; omega, rfl⟩
  · have h3 : hasB l i = false := by simp [hasB]; omega
    rw [h3]; clear h3
    go_enter Try.func45, Try.ntmps45
    go_wp2_with fail
    go_ret
    exact ⟨by simp, rfl⟩

theorem shr_and (x k : Nat) (hx : x < 256) (hk : k < 8) : (bits .and .u8 ((x : Int) / 2 ^ k) 1 == 1) = x.testBit k := by
  have e : (x : Int) / 2 ^ k = ((x / 2 ^ k : Nat) : Int) := by simp
  have h2 : x / 2 ^ k < 256 := Nat.lt_of_le_of_lt (Nat.div_le_self _ _) hx
  rw [e, show (1 : Int) = ((1 : Nat) : Int) from rfl, u8_and_nat _ _ h2 (by omega)]
  rw [Nat.testBit_eq_decide_div_mod_eq, Nat.and_one_is_mod]
  rw [Bool.eq_iff_iff]
  simp only [beq_iff_eq, decide_eq_true_eq]
  omega

set_option maxHeartbeats 400000 in
theorem get_any (v : Value) (l : List Nat) (i : Int) (w : World) (h : Bs w v l) (hlen : l.length ≤ 140737488355328) : Calls Try.prog 22 #[v, .int .i64 i] w fun e w' => e = .returned (.bool (getI l i)) ∧ w = w' := by
  cases hb : hasB l i with
  | false =>
    rw [getI_no hb]
    go_enter Try.func22, Try.ntmps22
    go_wp2_with (go_at_call 45; refine (has_any _ l _ _ h hlen).mono ?_; rintro e w' ⟨rfl, rfl⟩)
    go_ret
    exact ⟨by simp, rfl⟩
  | true =>
    have hb2 : 0 ≤ i ∧ i < 8 * l.length := by simpa [hasB] using hb
    obtain ⟨n, rfl⟩ := Int.eq_ofNat_of_zero_le hb2.1
    rw [getI_nat]
    have hlt := h.lt
    have h' := h
    obtain ⟨ao, cap, rfl, hl, hnn, hx, hc⟩ := h
    obtain ⟨b, off, rfl, hcell⟩ := hc (by omega)
    have hck := hcell (n / 8) (by omega)
    have hcl := getD_lt hlt (n / 8)
    have Hd : Hid (bitB l n = (l.getD (n / 8) 0).testBit (n % 8)) := rfl
    generalize l.getD (n / 8) 0 = x at *
    clear hcell hc
    go_enter Try.func22, Try.ntmps22
    go_wp2_with (go_at_call 45; refine (has_any _ l _ _ h' hlen).mono ?_; rintro e w' ⟨rfl, rfl⟩)
    go_ret
    refine ⟨?_, rfl⟩
    rw [Hd.out]
    exact ret_bool (shr_and x _ hcl (by omega))

theorem shr_rem (x k : Nat) (hx : x < 256) (hk : k < 8) : ((x : Int) / 2 ^ k % 2 == 1) = x.testBit k := by
  have e : (x : Int) / 2 ^ k = ((x / 2 ^ k : Nat) : Int) := by simp
  rw [e, Nat.testBit_eq_decide_div_mod_eq]
  rw [Bool.eq_iff_iff]
  simp only [beq_iff_eq, decide_eq_true_eq]
  omega

set_option maxHeartbeats 400000 in
theorem rget_any (v : Value) (l : List Nat) (i : Int) (w : World) (h : Bs w v l) (hlen : l.length ≤ 140737488355328) (hi : i ≤ 9223372036854775807) : Calls Try.prog 23 #[v, .int .i64 i] w fun e w' => e = .returned (.bool (getI l i)) ∧ w = w' := by
  cases hb : hasB l i with
  | false =>
    rw [getI_no hb]
    have hb2 : ¬ (0 ≤ i ∧ i < 8 * l.length) := by simpa [hasB] using hb
    clear hb
    obtain ⟨ao, cap, rfl, hl, hnn, hx, hc⟩ := h
    clear hc
    by_cases h0 : 0 ≤ i
    · have h1 : (l.length : Int) ≤ i / 8 := by omega
      clear hb2
      go_enter Try.func23, Try.ntmps23
      go_wp2_with fail
      go_ret
      exact ⟨by simp, rfl⟩
    · go_enter Try.func23, Try.ntmps23
      go_wp2_with fail
      go_ret
      exact ⟨by simp, rfl⟩
  | true =>
    have hb2 : 0 ≤ i ∧ i < 8 * l.length := by simpa [hasB] using hb
    obtain ⟨n, rfl⟩ := Int.eq_ofNat_of_zero_le hb2.1
    rw [getI_nat]
    have hlt := h.lt
    have h' := h
    obtain ⟨ao, cap, rfl, hl, hnn, hx, hc⟩ := h
    obtain ⟨b, off, rfl, hcell⟩ := hc (by omega)
    have hck := hcell (n / 8) (by omega)
    have hcl := getD_lt hlt (n / 8)
    have Hd : Hid (bitB l n = (l.getD (n / 8) 0).testBit (n % 8)) := rfl
    generalize l.getD (n / 8) 0 = x at *
    have h1 : (n : Int) / 8 < l.length := by omega
    clear hcell hc
    go_enter Try.func23, Try.ntmps23
    go_wp2_with fail
    go_ret
    refine ⟨?_, rfl⟩
    rw [Hd.out]
    exact ret_bool (shr_rem x _ hcl (by omega))

theorem strB_beq {xs ys : List Nat} (hx : ∀ x ∈ xs, x < 256) (hy : ∀ x ∈ ys, x < 256) : ((strB xs).toList == (strB ys).toList) = decide (xs = ys) := by
  rw [Bool.eq_iff_iff]
  simp only [beq_iff_eq, decide_eq_true_eq]
  constructor
  · intro h
    apply strB_inj hx hy
    rw [ByteArray.toList_eq, ByteArray.toList_eq] at h
    rw [ByteArray.ext_iff]
    exact Array.toList_inj.1 h
  · intro h; rw [h]

set_option maxHeartbeats 400000 in
theorem equal_any (v1 v2 : Value) (xs ys : List Nat) (w : World) (h1 : Bs w v1 xs) (h2 : Bs w v2 ys) :
    Calls Try.prog 14 #[v1, v2] w fun e w' => e = .returned (.bool (decide (xs = ys))) ∧ w = w' := by
  have c1 := h1.convert (P := Try.prog) 22 5 9 Try.underlying22 Try.underlying5 Try.underlying9
  have c2 := h2.convert (P := Try.prog) 22 5 9 Try.underlying22 Try.underlying5 Try.underlying9
  have hb := strB_beq h1.lt h2.lt
  clear h1 h2
  go_enter Try.func14, Try.ntmps14
  go_wp2
  go_ret
  exact ⟨by simp, rfl⟩

/-- A new slice of bytes, the call's own. -/
def NewBs (w : World) (l : List Nat) (e : Ending) (w' : World) : Prop :=
  ∃ v, e = .returned v ∧ w'.ownsRow w.heap.size 5 1 v l.length (cellsB l) ∧ Below w.heap.size w w'

/-- A new slice and an error. -/
def NewBsE (w : World) (l : List Nat) (x : Int) (e : Ending) (w' : World) : Prop :=
  ∃ v, e = .returned (.tuple #[v, .int .i64 x]) ∧ w'.ownsRow w.heap.size 5 1 v l.length (cellsB l) ∧ Below w.heap.size w w'

/-- The form of what a call owns. -/
theorem owns_form {w : World} {base : Nat} {e : TypeId} {v : Value} {n : Nat} {xs : List Value} (h : w.ownsRow base e 1 v n xs) :
    ∃ ao cap, v = .slice ao n cap ∧ n ≤ cap ∧ (0 < n → ∃ g, ao = some ⟨g, 0, none⟩ ∧ base ≤ g) := by
  rcases h.2 with ⟨rfl, rfl⟩ | ⟨g, cap, cur, rfl, hb, hg, hnc, _⟩
  · exact ⟨_, _, rfl, Nat.le_refl _, by simp⟩
  · exact ⟨_, _, rfl, hnc, fun _ => ⟨g, rfl, hb⟩⟩

/-- What a call owns stays its own where nothing that was there turns. -/
theorem owns_below {w w' : World} {B base : Nat} {e : TypeId} {size : Nat} {v : Value} {n : Nat} {xs : List Value} (h : w.ownsRow base e size v n xs) (hb : Below B w w') (hB : w.heap.size ≤ B) : w'.ownsRow base e size v n xs := by
  refine ⟨h.1, ?_⟩
  rcases h.2 with hn | ⟨g, cap, cur, rfl, hb', hgg, rest⟩
  · exact .inl hn
  · refine .inr ⟨g, cap, cur, rfl, hb', ?_, rest⟩
    rw [hb.block g (by have := (Array.getElem?_eq_some_iff.1 hgg).1; omega)]
    exact hgg

theorem owns_base {w : World} {base base' : Nat} {e : TypeId} {size : Nat} {v : Value} {n : Nat} {xs : List Value} (h : w.ownsRow base e size v n xs) (hB : base' ≤ base) : w.ownsRow base' e size v n xs := by
  refine ⟨h.1, ?_⟩
  rcases h.2 with hn | ⟨g, cap, cur, rfl, hb', rest⟩
  · exact .inl hn
  · exact .inr ⟨g, cap, cur, rfl, by omega, rest⟩

set_option maxRecDepth 100000 in
set_option maxHeartbeats 400000 in
theorem clone_any (v : Value) (l : List Nat) (w : World) (h : Bs w v l) (hlen : l.length ≤ 140737488355328) :
    Calls Try.prog 19 #[v] w (NewBs w l) := by
  obtain ⟨i0, hi, hz0, hz1, hz2⟩ := info_parts Try.info5
  have h' := h
  obtain ⟨ao, cap, rfl, hl, hnn, hx, hc⟩ := h
  cases ao with
  | none =>
    obtain ⟨h1, rfl, rfl⟩ := h'.none
    have hnil : ∀ w, (binOp .eql 22 (.slice none 0 0) (.slice none 0 0)).run Try.prog w = .ok (.bool true) w := fun w => Lib.run_eql_slice_nil (P := Try.prog) w 22 5 none 0 0 0 0 Try.underlying22
    clear hc hnn h'
    simp only [List.length_nil]
    go_enter Try.func19, Try.ntmps19
    go_wp2
    go_ret
    exact ⟨_, rfl, World.ownsRow_nil _ _ _ _, Below.refl _ _⟩
  | some ad =>
    have hnil := fun w => Lib.run_eql_slice_nil (P := Try.prog) w 22 5 (some ad) l.length cap 0 0 Try.underlying22
    clear hc
    go_enter Try.func19, Try.ntmps19
    go_wp2_with (at_builtin; refine wpList_append_bs _ rfl (.tmp 5) (.tmp 6) 22 rfl w.heap.size 5 i0 (.int .u8 0) Try.underlying22 hi hz0 hz1 hz2 rfl _ 0 [] rfl (World.ownsRow_lit w #[] 0 (Nat.le_refl _) (by simp) (by simp)) _ l rfl (h'.alloc _) (by omega) (by simp) ?_; intro v' w1 hown hgrow)
    have hb : Below w.heap.size w w1 := ((Below.refl _ _).alloc (Nat.le_refl _) _).grown hgrow (by simp) (by intro k hk; have e : some w.heap.size = some k := hk; injection e with e; omega)
    rw [Nat.zero_add, List.nil_append] at hown
    go_ret
    exact ⟨_, rfl, hown, hb⟩

set_option maxRecDepth 100000 in
set_option maxHeartbeats 400000 in
theorem own_any (v : Value) (l : List Nat) (w : World) (h : Bs w v l) (hlen : l.length ≤ 140737488355328) :
    Calls Try.prog 44 #[v] w (NewBs w l) := by
  obtain ⟨i0, hi, hz0, hz1, hz2⟩ := info_parts Try.info5
  go_enter Try.func44, Try.ntmps44
  go_wp2_with (at_builtin; refine wpList_append_bs _ rfl (.const (.slice none 0 0)) (.tmp 3) 22 rfl w.heap.size 5 i0 (.int .u8 0) Try.underlying22 hi hz0 hz1 hz2 rfl _ 0 [] rfl (World.ownsRow_nil _ _ _ _) _ l rfl h (by omega) (Nat.le_refl _) ?_; intro v' w1 hown hgrow)
  have hb : Below w.heap.size w w1 := (Below.refl _ _).grown hgrow (Nat.le_refl _) (by intro k hk; cases hk)
  rw [Nat.zero_add, List.nil_append] at hown
  go_ret
  exact ⟨_, rfl, hown, hb⟩

end Go.Proofs.Ytkdajahcadjpfaa
