/- Contracts of kevelref05: looking for a point. Own work. -/
import Derived.Test.YteppjedgeabmeaaRef05
import Derived.Laws.StructEq
namespace Go.Proofs.Yteppjedgeabmeaa
open Go.ChangeShapes Go.WideShapes Go.ChangeAt Go.RowKit Fl

theorem addP_add (a : Addr) (i j : Nat) : (a.add i).add j = a.add (i + j) := by
  unfold Addr.add
  by_cases hi : i = 0 <;> by_cases hj : j = 0 <;> simp [hi, hj, Nat.add_assoc]
/-- A slice's point, in the walk's spelling. -/
theorem ReadP.get {w : World} {A : Option Addr} {l : List Pt} (h : ReadP w A l) {k : Nat} (hk : k < l.length) : ∃ ad : Addr, A = some ad ∧
    w.cell? (ad.add (k * 3)) = some (.int .i64 l[k].x) ∧ w.cell? { block := (ad.add (k * 3)).block, off := (ad.add (k * 3)).off + 1 } = some (.int .i64 l[k].y) ∧ w.cell? { block := (ad.add (k * 3)).block, off := (ad.add (k * 3)).off + 2 } = some (.bool l[k].ok) := by
  obtain ⟨ad, e, hlt, h0, h1, h2⟩ := h k hk
  have e1 := (congrArg w.cell? (addP_add ad (k * 3) 1)).trans h1
  have e2 := (congrArg w.cell? (addP_add ad (k * 3) 2)).trans h2
  rw [Addr.add_succ'] at e1 e2
  exact ⟨ad, e, h0, e1, e2⟩
theorem pt_cases (q p : Pt) : (q.x == p.x) = false ∨ ((q.x == p.x) = true ∧ (q.y == p.y) = false) ∨ ((q.x == p.x) = true ∧ (q.y == p.y) = true ∧ (q.ok == p.ok) = false) ∨ q = p := by
  obtain ⟨a, b, c⟩ := q
  obtain ⟨x, y, z⟩ := p
  simp only [beq_eq_false_iff_ne, beq_iff_eq, Pt.mk.injEq]
  by_cases h1 : a = x <;> by_cases h2 : b = y <;> by_cases h3 : c = z <;> simp [h1, h2, h3]
theorem ne_x {q p : Pt} (h : (q.x == p.x) = false) : q ≠ p := fun e => by subst e; simp at h
theorem ne_y {q p : Pt} (h : (q.y == p.y) = false) : q ≠ p := fun e => by subst e; simp at h
theorem ne_ok {q p : Pt} (h : (q.ok == p.ok) = false) : q ≠ p := fun e => by subst e; simp at h
theorem next_ne {p : Pt} {k : Nat} (h : ∀ j, j < k → ptN j ≠ p) (hk : ptN k ≠ p) : ∀ j, j < k + 1 → ptN j ≠ p := fun j hj => by
  rcases Nat.lt_or_ge j k with h1 | h1
  · exact h j h1
  · have : j = k := by omega
    rw [this]; exact hk
theorem T_side64 : T (sideN 64) = 2080 := by decide
set_option maxHeartbeats 1000000 in
theorem nameR_is (p : Pt) (w : World) : Calls Try.prog 12 #[pv p] w fun e w' => e = .returned (.int .i64 (nameP p)) ∧ Below w.heap.size w w' := by
  unfold pv
  have hnew := box_new w p.x p.y p.ok 25
  have hlist := fun w => listR_is 64 w
  rw [T_side64] at hlist
  have HL := Lib.hid hlist; clear hlist
  have HN := Lib.hid hnew; clear hnew
  go_enter Try.func12, Try.ntmps12
  go_wp2_with fail
  refine (HL.out _).mono ?_; rintro e w1 ⟨v, rfl, hown, hB⟩
  obtain ⟨A, cap, rfl, hr⟩ := hown.reads
  have hbox := HN.out.below hB HN.out.lt
  have B1 : Hid (Below w.heap.size w w1) := Lib.hid ((show Below w.heap.size w (w.alloc _) by go_grown).trans (hB.mono (by simp)))
  have R := Lib.hid hr
  rw [firstN_len]
  clear hr hown hB HN HL
  obtain ⟨c0, c1, c2, clt⟩ := hbox
  simp only at c0 c1 c2
  go_wp2_with fail
  go_loopw [4] (fun i wr => ∃ k n : Nat, k ≤ 2080 ∧ i = .int .i64 k ∧ Hid (∀ j, j < k → ptN j ≠ p) ∧ wr = w1.drewN n) (fun i _ => 2080 - (intOf i).toNat)
  case atStart => exact ⟨0, 0, by omega, rfl, Lib.hid (fun j hj => absurd hj (by omega)), rfl⟩
  case round =>
    obtain ⟨k, n, hk, rfl, HJ, rfl⟩ := hrel
    by_cases hlt : k < 2080
    · obtain ⟨ad, rfl, d0, d1, d2⟩ := R.out.get (k := k) (by rw [firstN_len]; exact hlt)
      rw [firstN_get] at d0 d1 d2
      have e1 : (k : Int) < 2080 := by omega
      obtain ⟨q, hq⟩ : ∃ q, ptN k = q := ⟨_, rfl⟩
      rw [hq] at d0 d1 d2
      rcases pt_cases q p with h | ⟨h, h'⟩ | ⟨h, h', h''⟩ | h
      · have HJ' := Lib.hid (next_ne HJ.out (hq ▸ (ne_x h)))
        go_wp2_with fail
        go_quiet (fail)
        go_wp2_with fail
        exact ⟨⟨k + 1, _, by omega, by go_num, HJ', rfl⟩, by simp [intOf]; omega⟩
      · have HJ' := Lib.hid (next_ne HJ.out (hq ▸ (ne_y h')))
        go_wp2_with fail
        go_quiet (fail)
        go_wp2_with fail
        exact ⟨⟨k + 1, _, by omega, by go_num, HJ', rfl⟩, by simp [intOf]; omega⟩
      · have HJ' := Lib.hid (next_ne HJ.out (hq ▸ (ne_ok h'')))
        go_wp2_with fail
        go_quiet (fail)
        go_wp2_with fail
        exact ⟨⟨k + 1, _, by omega, by go_num, HJ', rfl⟩, by simp [intOf]; omega⟩
      · subst h
        have HF := Lib.hid (name_found hlt hq)
        go_wp2_with fail
        go_quiet (fail)
        go_wp2_with fail
        go_ret
        exact ⟨ret_int HF.out.symm, below_drewN (below_drewN B1.out _) _⟩
    · obtain rfl : k = 2080 := by omega
      have HF := Lib.hid (name_none HJ.out)
      go_wp2_with fail
      go_ret
      exact ⟨ret_int HF.out.symm, below_drewN B1.out _⟩
set_option maxHeartbeats 1000000 in
theorem onR_is (n : Int) (p : Pt) (w : World) : Calls Try.prog 10 #[.int .i64 n, pv p] w fun e w' => e = .returned (.bool (inTri p (sideN n))) ∧ Below w.heap.size w w' := by
  unfold pv
  have hnew := box_new w p.x p.y p.ok 25
  have hlist := fun w => listR_is n w
  have hT := T_le (sideN_le n)
  obtain ⟨t, ht⟩ : ∃ t, T (sideN n) = t := ⟨_, rfl⟩
  rw [ht] at hlist hT
  have Ht := Lib.hid ht; clear ht
  have HL := Lib.hid hlist; clear hlist
  have HN := Lib.hid hnew; clear hnew
  go_enter Try.func10, Try.ntmps10
  go_wp2_with fail
  refine (HL.out _).mono ?_; rintro e w1 ⟨v, rfl, hown, hB⟩
  obtain ⟨A, cap, rfl, hr⟩ := hown.reads
  have hbox := HN.out.below hB HN.out.lt
  have B1 : Hid (Below w.heap.size w w1) := Lib.hid ((show Below w.heap.size w (w.alloc _) by go_grown).trans (hB.mono (by simp)))
  have R := Lib.hid hr
  rw [firstN_len]
  clear hr hown hB HN HL
  obtain ⟨c0, c1, c2, clt⟩ := hbox
  simp only at c0 c1 c2
  go_wp2_with fail
  go_loopw [6] (fun i wr => ∃ k m : Nat, k ≤ t ∧ i = .int .i64 k ∧ Hid (∀ j, j < k → ptN j ≠ p) ∧ wr = w1.drewN m) (fun i _ => t - (intOf i).toNat)
  case atStart => exact ⟨0, 0, by omega, rfl, Lib.hid (fun j hj => absurd hj (by omega)), rfl⟩
  case round =>
    obtain ⟨k, m, hk, rfl, HJ, rfl⟩ := hrel
    by_cases hlt : k < t
    · obtain ⟨ad, rfl, d0, d1, d2⟩ := R.out.get (k := k) (by rw [firstN_len]; exact hlt)
      rw [firstN_get] at d0 d1 d2
      have e1 : (k : Int) < (t : Int) := by omega
      obtain ⟨q, hq⟩ : ∃ q, ptN k = q := ⟨_, rfl⟩
      rw [hq] at d0 d1 d2
      rcases pt_cases q p with h | ⟨h, h'⟩ | ⟨h, h', h''⟩ | h
      · have HJ' := Lib.hid (next_ne HJ.out (hq ▸ (ne_x h)))
        go_wp2_with fail
        go_quiet (fail)
        go_wp2_with fail
        exact ⟨⟨k + 1, _, by omega, by go_num, HJ', rfl⟩, by simp [intOf]; omega⟩
      · have HJ' := Lib.hid (next_ne HJ.out (hq ▸ (ne_y h')))
        go_wp2_with fail
        go_quiet (fail)
        go_wp2_with fail
        exact ⟨⟨k + 1, _, by omega, by go_num, HJ', rfl⟩, by simp [intOf]; omega⟩
      · have HJ' := Lib.hid (next_ne HJ.out (hq ▸ (ne_ok h'')))
        go_wp2_with fail
        go_quiet (fail)
        go_wp2_with fail
        exact ⟨⟨k + 1, _, by omega, by go_num, HJ', rfl⟩, by simp [intOf]; omega⟩
      · subst h
        have HF := Lib.hid (on_found (k := sideN n) (by rw [Ht.out]; exact hlt) hq)
        go_wp2_with fail
        go_quiet (fail)
        go_wp2_with fail
        go_ret
        exact ⟨ret_bool HF.out.symm, below_drewN (below_drewN B1.out _) _⟩
    · obtain rfl : k = t := by omega
      have HF := Lib.hid (on_none (k := sideN n) (p := p) (by rw [Ht.out]; exact HJ.out))
      go_wp2_with fail
      go_ret
      exact ⟨ret_bool HF.out.symm, below_drewN B1.out _⟩
theorem diagR_is (p : Pt) (hp : p.In) (w : World) : Calls Try.prog 14 #[pv p] w fun e w' => e = .returned (.int .i64 (diagP p)) ∧ Below w.heap.size w w' := by
  have hN := Lib.hid (nameR_is p)
  have hd := diag_name p
  have hnew := Lib.hid (box_new w p.x p.y p.ok 25)
  obtain ⟨x0, x1, y0, y1⟩ := hp
  generalize nameP p = m at hN hd
  unfold pv at *
  by_cases hm : m < 0
  · rw [if_pos hm] at hd
    have Hd := Lib.hid hd; clear hd
    go_enter Try.func14, Try.ntmps14
    go_wp2_with fail
    refine (hN.out _).mono ?_; rintro e w1 ⟨rfl, b1⟩
    go_wp2_with fail
    go_ret
    exact ⟨ret_int Hd.out.symm, (show Below w.heap.size w (w.alloc _) by go_grown).trans (b1.mono (by simp))⟩
  · rw [if_neg hm] at hd
    have Hd := Lib.hid hd; clear hd
    go_enter Try.func14, Try.ntmps14
    go_wp2_with fail
    refine (hN.out _).mono ?_; rintro e w1 ⟨rfl, b1⟩
    obtain ⟨c0, c1, c2, clt⟩ := hnew.out.below b1 hnew.out.lt
    simp only at c0 c1 c2
    go_wp2_with fail
    go_ret
    exact ⟨ret_int Hd.out.symm, (show Below w.heap.size w (w.alloc _) by go_grown).trans (b1.mono (by simp))⟩
end Go.Proofs.Yteppjedgeabmeaa
