/- MaskBack's walk: a range that may stop early. Own work. -/
import Derived.Test.YtfajkmcogceapaaDoorBack02
namespace Go.Proofs.YtfajkmcogceapaaDoor
open Go.ChangeShapes Go.WideShapes Go.ChangeAt Go.RowKit Go.Shelf Bits
attribute [local go_sem] Oper.semAt_some

theorem count_q (s : Nat) (hs : s < 18446744073709551616) (k : Nat) (h : (setF s).length = k) (w : World) : Calls Tryd.prog 13 #[.int .u64 s] w fun e w' => e = .returned (.int .i64 k) ∧ w' = w :=
  (count_is s hs k (by rw [← h, ← setF_val, List.length_map]) w).mono fun _ _ h => ⟨h.1, h.2.symm⟩
theorem text_beq {a b : Nat} (ha : a < 18446744073709551616) (hb : b < 18446744073709551616) : ((textT a == textT b) == ((a : Int) == (b : Int))) = true := by
  by_cases h : a = b
  · subst h; simp
  · have h1 : (textT a == textT b) = false := by rw [beq_eq_false_iff_ne]; exact fun e => h (textT_inj ha hb e)
    have h2 : ((a : Int) == (b : Int)) = false := by rw [beq_eq_false_iff_ne]; omega
    rw [h1, h2]; rfl
theorem ofL_setI {s : Nat} (hs : s < 18446744073709551616) : ofL (setI s) = s := by rw [setI_eq]; exact ofL_setL hs
set_option maxRecDepth 100000 in
set_option maxHeartbeats 4000000 in
theorem back_walk (a b : Nat) (ha : a < 18446744073709551616) (hb : b < 18446744073709551616) (m : Nat) (hm : m ≤ 255) (w : World) (ht : Tab w) :
    Calls Tryd.prog 4 #[.int .u64 a, .int .u64 b, .int .u8 m] w fun e w' => e = .returned (.bool true) ∧ Below w.heap.size w w' := by
  have hg := tab_lt ht
  have T0 := Lib.hid ht; clear ht
  refine (callsIn_wide (n := 4)).1 ?_
  refine callsIn_of_wp_marks Tryd.func4 rfl trivial ?_ rfl
  simp only [Tryd.ntmps4, List.size_toArray, List.length_cons, List.length_nil, Nat.reduceAdd, Nat.reduceSub, Array.replicate_succ, Array.replicate_zero, List.push_toArray, List.append_toArray, List.nil_append, List.cons_append]
  gi_wp2_with fail
  have bN := Boxed.new w 5 (.int .u8 m)
  refine ⟨trivial, (callsIn_wide.2 (alive_any _ (tab_below T0.out hg (below_alloc _ _)))).mono ?_⟩
  rintro e w1 ⟨rfl, hb1⟩
  have bN1 : Boxed w1 w.heap.size 5 (.int .u8 m) := (hb1.block _ (by simp)).trans bN
  have hB1 : Below w.heap.size w w1 := (below_alloc w _).trans (hb1.mono (by simp))
  have hlt1 := bN1.lt
  have T1 := Lib.hid (tab_below T0.out hg hB1)
  clear hb1 bN
  gi_wp2_with fail
  refine ⟨trivial, (eachF_in 3 a _).mono ?_⟩
  rintro e w' ⟨rfl, rfl⟩
  gi_wp2_with fail
  rename_i K hK0
  have bK := Boxed.new w1 3 (.int .i64 ((0 : Nat) : Int))
  have bS := Boxed.new (w1.alloc (.cells #[.int .i64 0] 3)) 22 (.int .u64 a)
  simp only [World.size_alloc] at bS
  have hB0 : Below w1.heap.size w1 ((w1.alloc (.cells #[.int .i64 0] 3)).alloc (.cells #[.int .u64 a] 22)) := ((Below.refl _ w1).alloc (Nat.le_refl _) _).alloc (by simp) _
  have rest : ∀ (D k : Nat) (W : World), w1.heap.size + 1 + 1 ≤ D → ((k = m ∧ m ≤ (setF a).length) ∨ (k = (setF a).length ∧ (setF a).length < m)) → Boxed W w1.heap.size 3 (.int .i64 k) → Below w1.heap.size w1 W → W.heap[D]? = some (.deferred (some [])) →
      K { tmps := #[.int .u64 a, .int .u64 b, .int .u8 m, undef, undef, .pointer (some ⟨w.heap.size, 0, none⟩), .bool false, .pointer (some ⟨w1.heap.size, 0, none⟩), .bool true, .bool false, .int .u64 a, .func (.func 31) #[] #[.pointer (some ⟨w1.heap.size + 1, 0, none⟩)], undef, undef, undef, undef, undef, undef, undef, undef, undef, undef, undef, undef, undef, undef, undef, undef, undef, undef, undef, undef, undef, undef, undef, undef, undef, undef, undef, undef, undef, undef], defers := [{ target := .collected D, args := #[] }] } W := by
    intro D k W hD hk hbk hB hdef
    have hNb : Boxed W w.heap.size 5 (.int .u8 m) := (hB.block _ hlt1).trans bN1
    have hNc := hNb.cell
    have hKc := hbk.cell
    obtain ⟨len, hlen⟩ : ∃ len, (setF a).length = len := ⟨_, rfl⟩
    rw [hlen] at hk
    have L := Lib.hid hlen; clear hlen
    have l64 : len ≤ 64 := by rw [← L.out]; exact setF_len a
    refine hK0 _ _ (wpIn_wide.2 ?_)
    have hmin : ((k : Int) != min (m : Int) (len : Int)) = false := by simp; omega
    clear hk
    have TW := Lib.hid (tab_below T1.out (tab_lt T1.out) hB)
    have hBw : Below w.heap.size w W := hB1.trans (hB.mono hB1.size)
    go_wp2_with fail
    go_quiet ((go_at_call 13; exact Calls.quiet_of_same (count_q a ha len L.out _)))
    go_wp2_with fail
    refine (each_any a ha _ (show Tab (W.drewN _) from TW.out)).mono ?_
    rintro e W2 ⟨v, rfl, hown, hb2⟩
    obtain ⟨A, cap, rfl, hr⟩ := hown.reads
    have R := Lib.hid hr; clear hr hown
    have h12 : Below W.heap.size W W2 := (below_drewN _ _ nq).trans hb2
    have TW2 := Lib.hid (tab_below TW.out (tab_lt TW.out) h12)
    go_wp2_with fail
    refine (of_is A cap _ (setI a) rfl (by have := setI_len a; unfold maxLen; omega) _ R.out a (ofL_setI ha)).mono ?_
    rintro e w' ⟨rfl, rfl⟩
    go_wp2_with fail
    refine (text_any a ha _ TW2.out).mono ?_
    rintro e W3 ⟨rfl, h23⟩
    have TW3 := Lib.hid (tab_below TW2.out (tab_lt TW2.out) h23)
    go_wp2_with fail
    refine (text_any b hb _ TW3.out).mono ?_
    rintro e W4 ⟨rfl, h34⟩
    go_wp2_with fail
    have h14 : Below W.heap.size W W4 := (h12.trans (h23.mono h12.size)).trans (h34.mono (Nat.le_trans h12.size h23.size))
    have hK4 : W4.heap[D]? = some (.deferred (some [])) := (h14.block D (lt_of_at hdef)).trans hdef
    have hz : Below w.heap.size w W4 := hBw.trans (h14.mono hBw.size)
    refine ⟨by simp, .inl ⟨_, _, rfl, run_takeDeferred hK4, ?_⟩⟩
    exact ⟨_, results_tmp rfl _ _ _, (by show Ending.returned (.bool ((textT a == textT b) == ((a : Int) == (b : Int)))) = _; rw [text_beq ha hb]), hz.trans (belowK_b (w := w) (Nat.le_refl _) W4 D _ _ (by omega) hK4 rfl rfl)⟩
  clear hK0
  refine wpIn_rangeFunc_ownG rfl (by decide) (gf := 31) (lb := #[.pointer (some ⟨w1.heap.size + 1, 0, none⟩)]) rfl trivial (enters_of Tryd.func31 (by kernel_rfl) rfl)
    (each_stops 3 (by decide) (w1.heap.size + 1) w1.heap.size a ha _ (tab_lt T1.out) (by simp) bS.cell (tab_below T1.out (tab_lt T1.out) hB0)) belowK_t (belowK_b (by simp; omega)) (Below.refl _ _) (fun _ => rfl)
    (fun pre W => (Boxed W w1.heap.size 3 (.int .i64 ((pre.length : Nat) : Int)) ∧ Below w1.heap.size w1 W) ∧ pre.length ≤ m)
    (fun c pre W => (Boxed W w1.heap.size 3 (.int .i64 (m : Int)) ∧ Below w1.heap.size w1 W) ∧ (c = .exit 0 ∧ pre.length = m + 1))
    (OwnFrom.and (OwnFrom.and (Own.from (boxed_own _ _ _) _) (ownFrom_below (Nat.le_refl _) (by simp; omega))) (ownFrom_pure _ _))
    (fun c => OwnFrom.and (OwnFrom.and (Own.from (boxed_own _ _ _) _) (ownFrom_below (Nat.le_refl _) (by simp; omega))) (ownFrom_pure _ _))
    ⟨⟨bK.alloc _, hB0⟩, Nat.zero_le _⟩
    (fun x => { tmps := #[.int .u64 a, .int .u64 b, .int .u8 m, undef, undef, .pointer (some ⟨w.heap.size, 0, none⟩), .bool false, .pointer (some ⟨w1.heap.size, 0, none⟩), .bool true, .bool false, .int .u64 a, .func (.func 31) #[] #[.pointer (some ⟨w1.heap.size + 1, 0, none⟩)], encT x, undef, undef, undef, undef, undef, undef, undef, undef, undef, undef, undef, undef, undef, undef, undef, undef, undef, undef, undef, undef, undef, undef, undef, undef, undef, undef, undef, undef, undef], defers := [] }) ?assign ?body ?done ?stop
  case assign =>
    intro l x W K hK
    gi_wp2
    exact hK
  case body =>
    rintro l pre x W ⟨⟨hbk, hB⟩, hle⟩ hlt
    have hNb : Boxed W w.heap.size 5 (.int .u8 m) := (hB.block _ hlt1).trans bN1
    have hNc := hNb.cell
    have hKc := hbk.cell
    have hKf := hbk.frozen
    by_cases he : pre.length = m
    · have hm2 : (((pre.length : Nat) : Int) == (m : Int)) = true := by simp; omega
      have E := Lib.hid he; clear he
      gi_wp2
      exact ⟨KeepsFrom.refl _ _, ⟨by rw [← E.out]; exact hbk, hB⟩, rfl, by rw [List.length_append, E.out]; rfl⟩
    · have hm2 : (((pre.length : Nat) : Int) == (m : Int)) = false := by simp; omega
      have E := Lib.hid he; clear he
      gi_wp2
      exact ⟨(KeepsOthers.setCell _ _ _).from _, (Below.refl _ _).setCell (p := ⟨w1.heap.size, 0, none⟩) (Nat.le_refl _) _,
        ⟨by rw [List.length_append]; exact hbk.set _, hB.setCell (p := ⟨w1.heap.size, 0, none⟩) (Nat.le_refl _) _⟩, by have := E.out; rw [List.length_append, List.length_singleton]; omega⟩
  case done =>
    rintro D ys W hD rfl ⟨⟨hbk, hB⟩, hle⟩ hK
    gi_wp2
    exact rest D _ W (by simpa using hD) (by omega) hbk hB hK
  case stop =>
    rintro D c pre W hD hpre ⟨⟨hbk, hB⟩, rfl, hlen⟩ hK
    have hl := hpre.length_le
    have hmm : m ≤ (setF a).length := by omega
    clear hlen hl
    gi_wp2
    exact rest D m W (by simpa using hD) (.inl ⟨rfl, hmm⟩) hbk hB hK
end Go.Proofs.YtfajkmcogceapaaDoor
