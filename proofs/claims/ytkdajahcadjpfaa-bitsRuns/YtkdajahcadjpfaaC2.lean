/- Contracts: set, bits.Put, atticref02.Put, atticref02.put, bits.New, atticref02.New. -/
import Derived.Test.YtkdajahcadjpfaaC1
set_option linter.unusedSimpArgs false
set_option linter.unusedVariables false
namespace Go.Proofs.Ytkdajahcadjpfaa
open Go.RowKit Go.Attic

theorem shl_one (k : Nat) (hk : k < 8) : (2 : Int) ^ k % 256 = ((2 ^ k : Nat) : Int) := by
  have hr : 2 ^ k < 2 ^ 8 := Nat.pow_lt_pow_right (by omega) hk
  rw [show (2 : Int) ^ k = ((2 ^ k : Nat) : Int) by simp]
  generalize 2 ^ k = y at hr
  omega
theorem or_set (x k : Nat) (hx : x < 256) (hk : k < 8) : bits .or .u8 (x : Int) ((2 : Int) ^ k % 256) = ((setB x k true : Nat) : Int) := by
  have hr : 2 ^ k < 2 ^ 8 := Nat.pow_lt_pow_right (by omega) hk
  rw [shl_one k hk, u8_or_nat x _ hx hr]
  rfl
theorem andNot_set (x k : Nat) (hx : x < 256) (hk : k < 8) : bits .andNot .u8 (x : Int) ((2 : Int) ^ k % 256) = ((setB x k false : Nat) : Int) := by
  have hr : 2 ^ k < 2 ^ 8 := Nat.pow_lt_pow_right (by omega) hk
  rw [shl_one k hk, u8_andNot_nat x _ hx hr]
  rfl

/-- What a store of a byte with a bit set makes of a row. -/
theorem owns_put {w : World} {base : Nat} {n cap g : Nat} {l : List Nat} (h : w.ownsRow base 5 1 (.slice (some ⟨g, 0, none⟩) n cap) n (cellsB l)) (i : Nat) (is : Bool) :
    (w.setCell ⟨g, i / 8, none⟩ (.int .u8 ((setB (l.getD (i / 8) 0) (i % 8) is : Nat) : Int))).ownsRow base 5 1 (.slice (some ⟨g, 0, none⟩) n cap) n (cellsB (putL l i is)) := by
  have := (h.stored (i / 8) (.int .u8 ((setB (l.getD (i / 8) 0) (i % 8) is : Nat) : Int))).1
  rw [show cellsB (putL l i is) = (cellsB l).set (i / 8) (.int .u8 ((setB (l.getD (i / 8) 0) (i % 8) is : Nat) : Int)) by simp only [cellsB, putL, List.map_set]]
  exact this

theorem owns_cell {w : World} {base : Nat} {n cap g : Nat} {l : List Nat} (h : w.ownsRow base 5 1 (.slice (some ⟨g, 0, none⟩) n cap) n (cellsB l)) (hn : n = l.length) (k : Nat) (hk : k < l.length) :
    w.cell? ⟨g, k, none⟩ = some (.int .u8 ((l.getD k 0 : Nat) : Int)) := by
  rw [h.cellAt k (by omega)]
  simp [cellsB, List.getD, hk]

set_option maxRecDepth 100000 in
set_option maxHeartbeats 400000 in
theorem set_any (g cap i : Nat) (l : List Nat) (is : Bool) (base : Nat) (w : World) (h : w.ownsRow base 5 1 (.slice (some ⟨g, 0, none⟩) l.length cap) l.length (cellsB l)) (hx : ∀ x ∈ l, x < 256) (hi : i < 8 * l.length) (hlen : l.length ≤ 140737488355328) :
    Calls Try.prog 43 #[.slice (some ⟨g, 0, none⟩) l.length cap, .int .i64 i, .bool is] w fun e w' => (∃ v, e = .returned v) ∧
      w'.ownsRow base 5 1 (.slice (some ⟨g, 0, none⟩) l.length cap) l.length (cellsB (putL l i is)) ∧ (∀ B, B ≤ g → Below B w w') := by
  have hc := owns_cell h rfl (i / 8) (by omega)
  have hf := h.frozenAt (i / 8)
  have hst := owns_put h i is
  have hxl := getD_lt hx (i / 8)
  have Hb : Hid (∀ B, B ≤ g → Below B w (w.setCell ⟨g, i / 8, none⟩ (.int .u8 ((setB (l.getD (i / 8) 0) (i % 8) is : Nat) : Int)))) := fun B hB => (Below.refl _ _).setCell (p := ⟨g, i / 8, none⟩) hB _
  generalize l.getD (i / 8) 0 = x at *
  have Hst := hide hst
  clear hst h
  cases is with
  | true =>
    go_enter Try.func43, Try.ntmps43
    go_wp2
    rw [or_set x _ hxl (by omega)]
    go_end0
    exact ⟨⟨_, rfl⟩, Hst.out, Hb.out⟩
  | false =>
    go_enter Try.func43, Try.ntmps43
    go_wp2
    rw [andNot_set x _ hxl (by omega)]
    go_end0
    exact ⟨⟨_, rfl⟩, Hst.out, Hb.out⟩

theorem putL_at {l : List Nat} {n : Nat} (hn : n < 8 * l.length) (is : Bool := false) : (putL l n is).getD (n / 8) 0 = setB (l.getD (n / 8) 0) (n % 8) is := by
  unfold putL
  rw [List.getD_eq_getElem?_getD, List.getElem?_set_self (by omega), Option.getD_some]
theorem putL_twice {l : List Nat} {n : Nat} (hn : n < 8 * l.length) (hx : ∀ x ∈ l, x < 256) : putL (putL l n false) n true = putL l n true := by
  apply row_ext (putL_lt (putL_lt hx _ _) _ _) (putL_lt hx _ _) (by simp [putL_length])
  intro i hi
  rw [bitB_put (by rw [putL_length]; exact hn), bitB_put hn, bitB_put hn]
  split <;> rfl
theorem hasB_iff {l : List Nat} {i : Int} (h : hasB l i = true) : ∃ n : Nat, i = n ∧ n < 8 * l.length := by
  have h2 : 0 ≤ i ∧ i < 8 * l.length := by simpa [hasB] using h
  exact ⟨i.toNat, by omega, by omega⟩

set_option maxRecDepth 100000 in
set_option maxHeartbeats 400000 in
theorem put_any (v : Value) (l : List Nat) (i : Int) (is : Bool) (w : World) (h : Bs w v l) (hlen : l.length ≤ 140737488355328) :
    Calls Try.prog 20 #[v, .int .i64 i, .bool is] w (NewBs w (putI l i is)) := by
  have hx := h.lt
  cases hb : hasB l i with
  | false =>
    have e : putI l i is = l := by simp [putI, hb]
    rw [e]; clear e
    go_enter Try.func20, Try.ntmps20
    go_wp2_with fail
    refine (own_any _ l _ h hlen).mono ?_
    rintro e w1 ⟨v1, rfl, hown, hbel⟩
    have hbs := Bs.of_owns hown hx
    go_wp2_with fail
    refine (has_any _ l i _ hbs hlen).mono ?_
    rintro e w2 ⟨rfl, rfl⟩
    rw [hb]
    go_wp2_with fail
    go_ret
    exact ⟨_, rfl, hown, hbel⟩
  | true =>
    obtain ⟨n, rfl, hn⟩ := hasB_iff hb
    have e : putI l n is = putL l n is := by simp [putI, hb]
    rw [e]; clear e
    go_enter Try.func20, Try.ntmps20
    go_wp2_with fail
    refine (own_any _ l _ h hlen).mono ?_
    rintro e w1 ⟨v1, rfl, hown, hbel⟩
    have hbs := Bs.of_owns hown hx
    go_wp2_with fail
    refine (has_any _ l n _ hbs hlen).mono ?_
    rintro e w2 ⟨rfl, rfl⟩
    rw [hb]
    obtain ⟨ao, cap, rfl, hcap, hao⟩ := owns_form hown
    obtain ⟨g, rfl, hg⟩ := hao (by omega)
    go_wp2_with fail
    refine (set_any g cap n l is _ _ hown hx hn hlen).mono ?_
    rintro e w2 ⟨⟨v2, rfl⟩, hown2, hb2⟩
    go_wp2_with fail
    go_ret
    exact ⟨_, rfl, by rw [putL_length]; exact hown2, hbel.trans (hb2 _ hg)⟩

set_option maxRecDepth 100000 in
set_option maxHeartbeats 400000 in
theorem rput_any (v : Value) (l : List Nat) (i : Int) (is : Bool) (w : World) (h : Bs w v l) (hlen : l.length ≤ 140737488355328) (hi : i ≤ 9223372036854775807) :
    Calls Try.prog 21 #[v, .int .i64 i, .bool is] w (NewBs w (putI l i is)) := by
  obtain ⟨i0, hi0, hz0, hz1, hz2⟩ := info_parts Try.info5
  have hx := h.lt
  have h' := h
  obtain ⟨ao, cap, rfl, hl, hnn, _, hc⟩ := h
  clear hc
  cases hb : hasB l i with
  | false =>
    have e : putI l i is = l := by simp [putI, hb]
    rw [e]; clear e
    have hb2 : ¬ (0 ≤ i ∧ i < 8 * l.length) := by simpa [hasB] using hb
    clear hb
    by_cases h0 : 0 ≤ i
    · have h1 : (l.length : Int) ≤ i / 8 := by omega
      clear hb2
      go_enter Try.func21, Try.ntmps21
      go_wp2_with (at_builtin; refine wpList_append_bs _ rfl (.const (.slice none 0 0)) (.tmp 9) 22 rfl w.heap.size 5 i0 (.int .u8 0) Try.underlying22 hi0 hz0 hz1 hz2 rfl _ 0 [] rfl (World.ownsRow_nil _ _ _ _) _ l rfl h' (by omega) (Nat.le_refl _) ?_; intro v' w1 hown hgrow)
      have hb : Below w.heap.size w w1 := (Below.refl _ _).grown hgrow (Nat.le_refl _) (by intro k hk; cases hk)
      rw [Nat.zero_add, List.nil_append] at hown
      go_ret
      exact ⟨_, rfl, hown, hb⟩
    · go_enter Try.func21, Try.ntmps21
      go_wp2_with (at_builtin; refine wpList_append_bs _ rfl (.const (.slice none 0 0)) (.tmp 9) 22 rfl w.heap.size 5 i0 (.int .u8 0) Try.underlying22 hi0 hz0 hz1 hz2 rfl _ 0 [] rfl (World.ownsRow_nil _ _ _ _) _ l rfl h' (by omega) (Nat.le_refl _) ?_; intro v' w1 hown hgrow)
      have hb : Below w.heap.size w w1 := (Below.refl _ _).grown hgrow (Nat.le_refl _) (by intro k hk; cases hk)
      rw [Nat.zero_add, List.nil_append] at hown
      go_ret
      exact ⟨_, rfl, hown, hb⟩
  | true =>
    obtain ⟨n, rfl, hn⟩ := hasB_iff hb
    have e : putI l n is = putL l n is := by simp [putI, hb]
    rw [e]; clear e
    clear hb
    have h1 : (n : Int) / 8 < l.length := by omega
    cases is with
    | false =>
      go_enter Try.func21, Try.ntmps21
      go_wp2_with (at_builtin; refine wpList_append_bs _ rfl (.const (.slice none 0 0)) (.tmp 9) 22 rfl w.heap.size 5 i0 (.int .u8 0) Try.underlying22 hi0 hz0 hz1 hz2 rfl _ 0 [] rfl (World.ownsRow_nil _ _ _ _) _ l rfl h' (by omega) (Nat.le_refl _) ?_; intro v' w1 hown hgrow; rw [Nat.zero_add, List.nil_append] at hown; obtain ⟨ao2, cap2, rfl, hcap2, hao2⟩ := owns_form hown; obtain ⟨g, rfl, hg⟩ := hao2 (by omega); have Hb : Hid (Below w.heap.size w w1) := (Below.refl _ _).grown hgrow (Nat.le_refl _) (by intro k hk; cases hk); have hck := owns_cell hown rfl (n / 8) (by omega); have hf := hown.frozenAt (n / 8); have Hown := hide hown; have hxl := getD_lt hx (n / 8); obtain ⟨x, hxe⟩ : ∃ x, l.getD (n / 8) 0 = x := ⟨_, rfl⟩; rw [hxe] at hck hxl; have Hxe := hide hxe; clear hown hgrow hxe)
      rw [andNot_set _ _ hxl (by omega), ← Hxe.out]
      go_ret
      exact ⟨_, rfl, by rw [putL_length]; exact owns_put Hown.out n false, Hb.out.setCell (p := ⟨g, n / 8, none⟩) hg _⟩
    | true =>
      go_enter Try.func21, Try.ntmps21
      go_wp2_with (at_builtin; refine wpList_append_bs _ rfl (.const (.slice none 0 0)) (.tmp 9) 22 rfl w.heap.size 5 i0 (.int .u8 0) Try.underlying22 hi0 hz0 hz1 hz2 rfl _ 0 [] rfl (World.ownsRow_nil _ _ _ _) _ l rfl h' (by omega) (Nat.le_refl _) ?_; intro v' w1 hown hgrow; rw [Nat.zero_add, List.nil_append] at hown; obtain ⟨ao2, cap2, rfl, hcap2, hao2⟩ := owns_form hown; obtain ⟨g, rfl, hg⟩ := hao2 (by omega); have Hb : Hid (Below w.heap.size w w1) := (Below.refl _ _).grown hgrow (Nat.le_refl _) (by intro k hk; cases hk); have hck := owns_cell hown rfl (n / 8) (by omega); have hf := hown.frozenAt (n / 8); have Hown := hide hown; have hxl := getD_lt hx (n / 8); obtain ⟨x, hxe⟩ : ∃ x, l.getD (n / 8) 0 = x := ⟨_, rfl⟩; rw [hxe] at hck hxl; have Hxe := hide hxe; clear hown hgrow hxe)
      rw [andNot_set _ _ hxl (by omega), or_set _ _ (setB_lt hxl (by omega) false) (by omega)]
      go_ret
      refine ⟨_, rfl, ?_, (Hb.out.setCell (p := ⟨g, n / 8, none⟩) hg _).setCell (p := ⟨g, n / 8, none⟩) hg _⟩
      rw [putL_length, ← putL_twice hn hx]
      have h3 := owns_put (owns_put Hown.out n false) n true
      rw [putL_at hn, Hxe.out] at h3
      exact h3

end Go.Proofs.Ytkdajahcadjpfaa
