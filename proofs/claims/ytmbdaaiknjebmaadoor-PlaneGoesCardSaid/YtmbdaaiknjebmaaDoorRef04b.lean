/- Contracts of plane's reference: turning, products, the test. Own work. -/
import Derived.Test.YtmbdaaiknjebmaaDoorRef04
namespace Go.Proofs.YtmbdaaiknjebmaaDoor
open Go.ChangeShapes Go.WideShapes Go.ChangeAt Go.RowKit Fl

def turnP (p : Pt) (k : Int) : Pt := if p.ok then rotN (k % 4).toNat p else ⟨0, 0, true⟩
theorem rot_in {p : Pt} (h : p.In) : (rot p).In := by
  obtain ⟨a, b, c, d⟩ := h
  unfold rot
  constructor <;> simp only <;> omega
theorem rotN_in {p : Pt} (h : p.In) : ∀ j, (rotN j p).In
  | 0 => h
  | j + 1 => rot_in (rotN_in h j)
theorem rotN_ok (p : Pt) : ∀ j, (rotN j p).ok = p.ok
  | 0 => rfl
  | j + 1 => rotN_ok p j
theorem turnR_is (p : Pt) (hp : p.In) (k : Int) (w : World) : Calls Tryd.prog 10 #[pv p, .int .i64 k] w fun e w' => e = .returned (pv (turnP p k)) ∧ Below w.heap.size w w' := by
  cases hok : p.ok with
  | false =>
    have hz : turnP p k = ⟨0, 0, true⟩ := by unfold turnP; rw [hok]; rfl
    have Hz := Lib.hid hz; clear hz
    unfold pv
    rw [hok]
    go_enter Tryd.func10, Tryd.ntmps10
    go_wp2
    refine bodyPost_ret (v := pv ⟨0, 0, true⟩) (by simp [results, Tryd.results10, go_sem]; rfl) rfl ⟨by rw [Hz.out]; rfl, by go_grown⟩
  | true =>
    have hz : turnP p k = rotN (k % 4).toNat p := by unfold turnP; rw [hok]; rfl
    have hw := fun w => wrap_is k w
    have hm4 : (k % 4).toNat < 4 := by omega
    generalize hm : (k % 4).toNat = m at hz hw hm4
    clear hm
    have Hz := Lib.hid hz; clear hz
    have Hw := Lib.hid hw; clear hw
    unfold pv
    rw [hok]
    go_enter Tryd.func10, Tryd.ntmps10
    go_wp2_with fail
    go_loopw [5] (fun i wr => ∃ (j : Nat), j ≤ m ∧ i = .int .i64 j ∧ wr = (w.alloc (Obj.cells #[.int .i64 (rotN j p).x, .int .i64 (rotN j p).y, .bool true] 27)).alloc (Obj.cells #[.int .i64 0, .int .i64 0, .bool false] 27)) (fun i _ => m - (intOf i).toNat)
    case atStart => exact ⟨0, by omega, rfl, rfl⟩
    case round =>
      obtain ⟨j, hj, rfl, rfl⟩ := hrel
      by_cases hlt : j < m
      · have hlt' : decide ((j : Int) < (m : Int)) = true := by rw [decide_eq_true_iff]; omega
        have hin := rotN_in hp j
        obtain ⟨x0, x1, y0, y1⟩ := hin
        go_wp2_with fail
        refine (Hw.out _).mono ?_; rintro e w' ⟨rfl, rfl⟩
        go_wp2_with fail
        exact ⟨⟨j + 1, by omega, by go_num, rfl⟩, by simp [intOf]; omega⟩
      · obtain rfl : j = m := by omega
        have hlt' : decide ((j : Int) < (j : Int)) = false := by rw [decide_eq_false_iff_not]; omega
        go_wp2_with fail
        refine (Hw.out _).mono ?_; rintro e w' ⟨rfl, rfl⟩
        go_wp2
        refine bodyPost_ret (v := .agg #[.int .i64 (rotN j p).x, .int .i64 (rotN j p).y, .bool true]) (by simp [results, Tryd.results10, go_sem]) rfl ⟨by rw [Hz.out, rotN_ok, hok], by go_grown⟩
theorem timesR_is (p q : Pt) (hp : p.In) (hq : q.In) (w : World) : Calls Tryd.prog 16 #[pv p, pv q] w fun e w' => e = .returned (pv (prodP p q)) ∧ Below w.heap.size w w' := by
  have m1 := mul_bound hp.x0 hp.x1 hq.x0 hq.x1
  have m2 := mul_bound hp.y0 hp.y1 hq.y0 hq.y1
  have m3 := mul_bound hp.x0 hp.x1 hq.y0 hq.y1
  have m4 := mul_bound hp.y0 hp.y1 hq.x0 hq.x1
  cases hok : p.ok with
  | false =>
    have Hz := Lib.hid (show prodP p q = ⟨0, 0, false⟩ by unfold prodP; rw [hok]; rfl)
    unfold pv
    rw [hok]
    go_enter Tryd.func16, Tryd.ntmps16
    go_wp2
    refine bodyPost_ret (v := pv ⟨0, 0, false⟩) (by simp [results, Tryd.results16, go_sem]; rfl) rfl ⟨by rw [Hz.out]; rfl, by go_grown⟩
  | true =>
    cases hok2 : q.ok with
    | false =>
      have Hz := Lib.hid (show prodP p q = ⟨0, 0, false⟩ by unfold prodP; rw [hok, hok2]; rfl)
      unfold pv
      rw [hok, hok2]
      go_enter Tryd.func16, Tryd.ntmps16
      go_wp2
      refine bodyPost_ret (v := pv ⟨0, 0, false⟩) (by simp [results, Tryd.results16, go_sem]; rfl) rfl ⟨by rw [Hz.out]; rfl, by go_grown⟩
    | true =>
      have hz : prodP p q = if isPart (p.x * q.x - p.y * q.y) && isPart (p.x * q.y + p.y * q.x) then ⟨p.x * q.x - p.y * q.y, p.x * q.y + p.y * q.x, true⟩ else ⟨0, 0, false⟩ := by unfold prodP; rw [hok, hok2]; rfl
      have hr := right_is (p.x * q.x - p.y * q.y) (p.x * q.y + p.y * q.x)
      generalize (isPart (p.x * q.x - p.y * q.y) && isPart (p.x * q.y + p.y * q.x)) = b at hz hr
      have Hr := Lib.hid hr; clear hr
      unfold pv
      rw [hok, hok2]
      cases b
      · have Hz := Lib.hid hz; clear hz
        go_enter Tryd.func16, Tryd.ntmps16
        go_wp2_with fail
        refine (Hr.out _).mono ?_; rintro e w' ⟨rfl, rfl⟩
        go_wp2
        refine bodyPost_ret (v := pv ⟨0, 0, false⟩) (by simp [results, Tryd.results16, go_sem]; rfl) rfl ⟨by rw [Hz.out]; rfl, by go_grown⟩
      · have Hz := Lib.hid hz; clear hz
        go_enter Tryd.func16, Tryd.ntmps16
        go_wp2_with fail
        refine (Hr.out _).mono ?_; rintro e w' ⟨rfl, rfl⟩
        go_wp2
        refine bodyPost_ret (v := pv ⟨p.x * q.x - p.y * q.y, p.x * q.y + p.y * q.x, true⟩) (by simp [results, Tryd.results16, go_sem]; rfl) rfl ⟨by rw [Hz.out]; rfl, by go_grown⟩
/-- Whether a point is just this one: it is. -/
theorem isR_is (p : Pt) (hp : p.In) (w : World) : Calls Tryd.prog 26 #[.float .f64 (floatOfInt .f64 p.x), .float .f64 (floatOfInt .f64 p.y), pv p] w fun e w' => e = .returned (.bool true) ∧ Below w.heap.size w w' := by
  obtain ⟨x, y, ok⟩ := p
  obtain ⟨x0, x1, y0, y1⟩ := hp
  simp only at x0 x1 y0 y1
  unfold pv
  simp only
  have t1 := neq_whole (whole_ofInt (n := x) (by omega)) (whole_ofInt (n := x) (by omega))
  have t2 := neq_whole (whole_ofInt (n := y) (by omega)) (whole_ofInt (n := y) (by omega))
  rw [decide_eq_false (by omega)] at t1 t2
  have z1 := neq_whole (whole_ofInt (n := x) (by omega)) whole_zero
  have z2 := neq_whole (whole_ofInt (n := y) (by omega)) whole_zero
  have hq : ∀ w : World, (binOp .quo 22 (.float .f64 4607182418800017408) (.float .f64 (floatOfInt .f64 0))).run Tryd.prog w = .ok (.float .f64 9218868437227405312) w := fun w => run_float_arith w .quo 22 .f64 _ _ _ (by rw [fi_zero]; exact quo_zero)
  have hg : (FloatKind.f64.format.order 9218868437227405312 0 == some .gt) = true := by rw [show FloatKind.f64.format = Ieee.double from rfl, ord_inf_zero]; rfl
  by_cases hx : x = 0
  · subst hx
    rw [decide_eq_false (by omega)] at z1
    by_cases hy : y = 0
    · subst hy
      rw [decide_eq_false (by omega)] at z2
      go_enter Tryd.func26, Tryd.ntmps26
      go_wp2
      go_ret
      exact ⟨rfl, by go_grown⟩
    · rw [decide_eq_true hy] at z2
      go_enter Tryd.func26, Tryd.ntmps26
      go_wp2
      go_ret
      exact ⟨rfl, by go_grown⟩
  · rw [decide_eq_true hx] at z1
    by_cases hy : y = 0
    · subst hy
      rw [decide_eq_false (by omega)] at z2
      go_enter Tryd.func26, Tryd.ntmps26
      go_wp2
      go_ret
      exact ⟨rfl, by go_grown⟩
    · rw [decide_eq_true hy] at z2
      go_enter Tryd.func26, Tryd.ntmps26
      go_wp2
      go_ret
      exact ⟨rfl, by go_grown⟩
theorem is_is (p : Pt) (hp : p.In) (w : World) : Calls Tryd.prog 8 #[.complex .f64 (floatOfInt .f64 p.x) (floatOfInt .f64 p.y), pv p] w fun e w' => e = .returned (.bool true) ∧ Below w.heap.size w w' := by
  have Hi := Lib.hid (fun w => isR_is p hp w)
  unfold pv at Hi ⊢
  go_enter Tryd.func8, Tryd.ntmps8
  go_wp2_with fail
  refine (Hi.out _).mono ?_; rintro e w1 ⟨rfl, b1⟩
  go_wp2
  go_ret
  exact ⟨rfl, (show Below w.heap.size w (w.alloc _) by go_grown).trans (b1.mono (by simp))⟩
theorem many_is (c : UInt8) (n : Int) (hn : n ≤ 64) (w : World) : Calls Tryd.prog 38 #[.string ⟨#[c]⟩, .int .i64 n] w fun e w' => e = .returned (.string ⟨(rep c n).toArray⟩) ∧ w = w' := by
  go_enter Tryd.func38, Tryd.ntmps38
  go_wp2_with fail
  go_loopw [5, 6] (fun s i wr => ∃ k : Nat, k ≤ n.toNat ∧ s = .string ⟨(List.replicate k c).toArray⟩ ∧ i = .int .i64 k ∧ w = wr) (fun _ i _ => n.toNat - (intOf i).toNat)
  case atStart => exact ⟨0, by omega, rfl, rfl, rfl⟩
  case round =>
    obtain ⟨k, hk, rfl, rfl, rfl⟩ := hrel
    have hl : (List.replicate k c).length = k := List.length_replicate
    by_cases hlt : (k : Int) < n
    · go_wp2_with fail
      go_roundw
      case rel => exact ⟨k + 1, by omega, by rw [str_one, str_app, List.replicate_succ']; rfl, by go_num, trivial⟩
      case measure => simp [intOf]; omega
    · have hz : rep c n = List.replicate k c := by unfold rep; rw [show n.toNat = k by omega]
      have Hz := Lib.hid hz; clear hz
      go_wp2_with fail
      go_ret
      exact ⟨ret_str (by rw [Hz.out]; simp), rfl⟩
theorem wayR_is (p q : Pt) (hp : p.In) (hq : q.In) (h1 : p.ok = true) (h2 : q.ok = true) (w : World) : Calls Tryd.prog 23 #[pv p, pv q] w fun e w' =>
    e = .returned (.tuple #[.string ⟨(wayP (q.x - p.x) (q.y - p.y)).1.toArray⟩, .int .i64 (wayP (q.x - p.x) (q.y - p.y)).2]) ∧ Below w.heap.size w w' := by
  obtain ⟨x, y, ok⟩ := p
  obtain ⟨v, u, ok'⟩ := q
  obtain ⟨x0, x1, y0, y1⟩ := hp
  obtain ⟨v0, v1, u0, u1⟩ := hq
  simp only at h1 h2 x0 x1 y0 y1 v0 v1 u0 u1
  subst h1; subst h2
  unfold pv
  simp only
  have hdx : -2097152 ≤ v - x ∧ v - x ≤ 2097152 := by omega
  have hdy : -2097152 ≤ u - y ∧ u - y ≤ 2097152 := by omega
  obtain ⟨dx, edx⟩ : ∃ dx, v - x = dx := ⟨_, rfl⟩
  obtain ⟨dy, edy⟩ : ∃ dy, u - y = dy := ⟨_, rfl⟩
  rw [edx, edy]
  rw [edx] at hdx
  rw [edy] at hdy
  by_cases hs : dx.natAbs + dy.natAbs ≤ 64
  · have Hz := Lib.hid (show wayP dx dy = (wayL dx dy, 0) by unfold wayP; rw [if_pos hs])
    have l1 := rep_len 114 dx
    have l2 := rep_len 108 (-dx)
    have l3 := rep_len 100 dy
    have l4 := rep_len 117 (-dy)
    go_enter Tryd.func23, Tryd.ntmps23
    go_wp2_with fail
    all_goals
      refine (many_is 114 dx (by omega) _).mono ?_; rintro e w' ⟨rfl, rfl⟩
      go_wp2_with fail
      refine (many_is 108 (-dx) (by omega) _).mono ?_; rintro e w' ⟨rfl, rfl⟩
      go_wp2_with fail
      refine (many_is 100 dy (by omega) _).mono ?_; rintro e w' ⟨rfl, rfl⟩
      go_wp2_with fail
      refine (many_is 117 (-dy) (by omega) _).mono ?_; rintro e w' ⟨rfl, rfl⟩
      go_wp2
      go_ret2
      exact ⟨by rw [Hz.out]; exact ret_way (by rw [str_app, str_app, str_app]; unfold wayL; simp) rfl, by go_grown⟩
  · have Hz := Lib.hid (show wayP dx dy = ([], 6) by unfold wayP; rw [if_neg hs])
    go_enter Tryd.func23, Tryd.ntmps23
    go_wp2_with fail
    all_goals
      go_ret2
      exact ⟨by rw [Hz.out]; rfl, by go_grown⟩
theorem part_and (x y : Int) : (isPart x && isPart y) = true → (-1048576 ≤ x ∧ x ≤ 1048576) ∧ (-1048576 ≤ y ∧ y ≤ 1048576) := by
  unfold isPart; simp only [Bool.and_eq_true, decide_eq_true_eq]; exact id
theorem goL_step {c : UInt8} {dx dy : Int} (h : stepOf c = some (dx, dy)) (l : List UInt8) (x y : Int) : goL (c :: l) x y = if isPart (x + dx) && isPart (y + dy) then goL l (x + dx) (y + dy) else (⟨0, 0, false⟩, 6) := by
  conv => lhs; unfold goL
  rw [h]
theorem letter_cases (c : UInt8) : c = 114 ∨ c = 108 ∨ c = 100 ∨ c = 117 ∨ (stepOf c = none ∧ (((c.toNat : Nat) : Int) == 114) = false ∧ (((c.toNat : Nat) : Int) == 108) = false ∧ (((c.toNat : Nat) : Int) == 100) = false ∧ (((c.toNat : Nat) : Int) == 117) = false) := by
  by_cases h1 : c = 114
  · exact .inl h1
  by_cases h2 : c = 108
  · exact .inr (.inl h2)
  by_cases h3 : c = 100
  · exact .inr (.inr (.inl h3))
  by_cases h4 : c = 117
  · exact .inr (.inr (.inr (.inl h4)))
  have ne : ∀ d : UInt8, c ≠ d → (((c.toNat : Nat) : Int) == ((d.toNat : Nat) : Int)) = false := by
    intro d hd
    rw [beq_eq_false_iff_ne]
    intro h
    exact hd (UInt8.toNat_inj.1 (by omega))
  refine .inr (.inr (.inr (.inr ⟨?_, ne 114 h1, ne 108 h2, ne 100 h3, ne 117 h4⟩)))
  unfold stepOf; rw [if_neg h1, if_neg h2, if_neg h3, if_neg h4]
set_option maxHeartbeats 1600000 in
theorem goR_is (p : Pt) (hp : p.In) (hok : p.ok = true) (l : List UInt8) (hl : l.length ≤ 9223372036854775807) (w : World) : Calls Tryd.prog 21 #[pv p, .string ⟨l.toArray⟩] w fun e w' =>
    e = .returned (.tuple #[pv (goL l p.x p.y).1, .int .i64 (goL l p.x p.y).2]) ∧ Below w.heap.size w w' := by
  obtain ⟨x, y, ok⟩ := p
  obtain ⟨x0, x1, y0, y1⟩ := hp
  simp only at hok x0 x1 y0 y1
  subst hok
  unfold pv
  simp only
  go_enter Tryd.func21, Tryd.ntmps21
  go_wp2_with fail
  go_loopw [6] (fun i wr => ∃ (k : Nat) (x' y' : Int), k ≤ l.length ∧ i = .int .i64 k ∧ ((-1048576 ≤ x' ∧ x' ≤ 1048576) ∧ (-1048576 ≤ y' ∧ y' ≤ 1048576)) ∧ Hid (goL l x y = goL (l.drop k) x' y') ∧ wr = (w.alloc (Obj.cells #[.int .i64 x', .int .i64 y', .bool true] 27)).alloc (Obj.cells #[.int .i64 0, .int .i64 0, .bool false] 27)) (fun i _ => l.length - (intOf i).toNat)
  case atStart => exact ⟨0, x, y, by omega, rfl, ⟨⟨x0, x1⟩, ⟨y0, y1⟩⟩, Lib.hid rfl, rfl⟩
  case round =>
    obtain ⟨k, x', y', hk, rfl, hI', HG, rfl⟩ := hrel
    by_cases hlt : k < l.length
    · have hdrop := List.drop_eq_getElem_cons hlt
      have hidx := index_run l k hlt
      generalize hc : l[k] = c at hdrop hidx
      clear hc
      have hlt' : decide ((k : Int) < (l.length : Int)) = true := by rw [decide_eq_true_iff]; omega
      rcases letter_cases c with rfl | rfl | rfl | rfl | ⟨hs, e1, e2, e3, e4⟩
      · have hg := goL_step (c := 114) (dx := 1) (dy := 0) rfl (l.drop (k + 1)) x' y'
        rw [← hdrop, ← HG.out, show x' + 1 = x' + 1 by omega, show y' + 0 = y' by omega] at hg
        have hr := right_is (x' + 1) (y')
        have hin := part_and (x' + 1) (y')
        generalize (isPart (x' + 1) && isPart (y')) = b at hg hr hin
        have Hr := Lib.hid hr
        clear hr HG hdrop
        cases b
        · have Hg := Lib.hid hg; clear hg hin
          go_wp2_with fail
          refine (Hr.out _).mono ?_; rintro e w' ⟨rfl, rfl⟩
          go_wp2
          refine bodyPost_ret (v := .tuple #[pv ⟨0, 0, false⟩, .int .i64 6]) (by simp [results, Tryd.results21, go_sem]; rfl) rfl ⟨by rw [Hg.out]; rfl, by go_grown⟩
        · have Hg := Lib.hid hg; clear hg
          have hin' := hin rfl
          clear hin
          go_wp2_with fail
          refine (Hr.out _).mono ?_; rintro e w' ⟨rfl, rfl⟩
          go_wp2_with fail
          exact ⟨⟨k + 1, x' + 1, y', by omega, by go_num, hin', Hg, rfl⟩, by simp [intOf]; omega⟩
      · have hg := goL_step (c := 108) (dx := -1) (dy := 0) rfl (l.drop (k + 1)) x' y'
        rw [← hdrop, ← HG.out, show x' + -1 = x' - 1 by omega, show y' + 0 = y' by omega] at hg
        have hr := right_is (x' - 1) (y')
        have hin := part_and (x' - 1) (y')
        generalize (isPart (x' - 1) && isPart (y')) = b at hg hr hin
        have Hr := Lib.hid hr
        clear hr HG hdrop
        cases b
        · have Hg := Lib.hid hg; clear hg hin
          go_wp2_with fail
          refine (Hr.out _).mono ?_; rintro e w' ⟨rfl, rfl⟩
          go_wp2
          refine bodyPost_ret (v := .tuple #[pv ⟨0, 0, false⟩, .int .i64 6]) (by simp [results, Tryd.results21, go_sem]; rfl) rfl ⟨by rw [Hg.out]; rfl, by go_grown⟩
        · have Hg := Lib.hid hg; clear hg
          have hin' := hin rfl
          clear hin
          go_wp2_with fail
          refine (Hr.out _).mono ?_; rintro e w' ⟨rfl, rfl⟩
          go_wp2_with fail
          exact ⟨⟨k + 1, x' - 1, y', by omega, by go_num, hin', Hg, rfl⟩, by simp [intOf]; omega⟩
      · have hg := goL_step (c := 100) (dx := 0) (dy := 1) rfl (l.drop (k + 1)) x' y'
        rw [← hdrop, ← HG.out, show x' + 0 = x' by omega, show y' + 1 = y' + 1 by omega] at hg
        have hr := right_is (x') (y' + 1)
        have hin := part_and (x') (y' + 1)
        generalize (isPart (x') && isPart (y' + 1)) = b at hg hr hin
        have Hr := Lib.hid hr
        clear hr HG hdrop
        cases b
        · have Hg := Lib.hid hg; clear hg hin
          go_wp2_with fail
          refine (Hr.out _).mono ?_; rintro e w' ⟨rfl, rfl⟩
          go_wp2
          refine bodyPost_ret (v := .tuple #[pv ⟨0, 0, false⟩, .int .i64 6]) (by simp [results, Tryd.results21, go_sem]; rfl) rfl ⟨by rw [Hg.out]; rfl, by go_grown⟩
        · have Hg := Lib.hid hg; clear hg
          have hin' := hin rfl
          clear hin
          go_wp2_with fail
          refine (Hr.out _).mono ?_; rintro e w' ⟨rfl, rfl⟩
          go_wp2_with fail
          exact ⟨⟨k + 1, x', y' + 1, by omega, by go_num, hin', Hg, rfl⟩, by simp [intOf]; omega⟩
      · have hg := goL_step (c := 117) (dx := 0) (dy := -1) rfl (l.drop (k + 1)) x' y'
        rw [← hdrop, ← HG.out, show x' + 0 = x' by omega, show y' + -1 = y' - 1 by omega] at hg
        have hr := right_is (x') (y' - 1)
        have hin := part_and (x') (y' - 1)
        generalize (isPart (x') && isPart (y' - 1)) = b at hg hr hin
        have Hr := Lib.hid hr
        clear hr HG hdrop
        cases b
        · have Hg := Lib.hid hg; clear hg hin
          go_wp2_with fail
          refine (Hr.out _).mono ?_; rintro e w' ⟨rfl, rfl⟩
          go_wp2
          refine bodyPost_ret (v := .tuple #[pv ⟨0, 0, false⟩, .int .i64 6]) (by simp [results, Tryd.results21, go_sem]; rfl) rfl ⟨by rw [Hg.out]; rfl, by go_grown⟩
        · have Hg := Lib.hid hg; clear hg
          have hin' := hin rfl
          clear hin
          go_wp2_with fail
          refine (Hr.out _).mono ?_; rintro e w' ⟨rfl, rfl⟩
          go_wp2_with fail
          exact ⟨⟨k + 1, x', y' - 1, by omega, by go_num, hin', Hg, rfl⟩, by simp [intOf]; omega⟩
      · have hg : goL l x y = (⟨0, 0, false⟩, 3) := by rw [HG.out, hdrop]; unfold goL; rw [hs]
        have Hg := Lib.hid hg; clear hg HG hdrop hs
        go_wp2_with fail
        refine bodyPost_ret (v := .tuple #[pv ⟨0, 0, false⟩, .int .i64 3]) (by simp [results, Tryd.results21, go_sem]; rfl) rfl ⟨by rw [Hg.out]; rfl, by go_grown⟩
    · obtain rfl : k = l.length := by omega
      have hg : goL l x y = (⟨x', y', true⟩, 0) := by rw [HG.out, List.drop_length]; rfl
      have Hg := Lib.hid hg; clear hg HG
      have hlt' : decide ((l.length : Int) < (l.length : Int)) = false := by rw [decide_eq_false_iff_not]; omega
      go_wp2_with fail
      refine bodyPost_ret (v := .tuple #[pv ⟨x', y', true⟩, .int .i64 0]) (by simp [results, Tryd.results21, go_sem]; rfl) rfl ⟨by rw [Hg.out]; rfl, by go_grown⟩
end Go.Proofs.YtmbdaaiknjebmaaDoor
