/- Slices of strips (api.Strip): what they read as; mayBe, Count, At, the reference's At. Own work. -/
import Derived.Test.YtdfkmkflcnfchaaBank
import Derived.Laws.StructEq
namespace Go.Proofs.Ytdfkmkflcnfchaa
open Go.ChangeShapes Go.WideShapes Go.ChangeAt Go.RowKit CellM

/-- The slice's places hold the strips L. -/
def RS (w : World) (A : Option Addr) (c : Nat) (L : List Strip) : Prop :=
  L.length ≤ c ∧ c ≤ maxLen ∧ ∀ k (h : k < L.length), ∃ ad, A = some ad ∧ w.cell? (ad.add (k * 3)) = some (.int .i64 L[k].many) ∧
    w.cell? ⟨(ad.add (k * 3)).block, (ad.add (k * 3)).off + 1, none⟩ = some (.int .i64 L[k].kind) ∧ w.cell? ⟨(ad.add (k * 3)).block, (ad.add (k * 3)).off + 2, none⟩ = some (.int .i64 L[k].top)
theorem RS.below {w w' : World} {A : Option Addr} {c : Nat} {L : List Strip} (h : RS w A c L) (hb : Below w.heap.size w w') : RS w' A c L :=
  ⟨h.1, h.2.1, fun k hk => by
    obtain ⟨ad, e, h0, h1, h2⟩ := h.2.2 k hk
    exact ⟨ad, e, (hb.cell (cell_lt h0)).trans h0, (hb.cell (cell_lt h1)).trans h1, (hb.cell (cell_lt h2)).trans h2⟩⟩
theorem RS.max {w : World} {A : Option Addr} {c : Nat} {L : List Strip} (h : RS w A c L) : L.length ≤ 9223372036854775807 := by
  have := Nat.le_trans h.1 h.2.1
  unfold maxLen at this; exact this
theorem isKind_is (n : Int) (b : Bool) (hb : (n == 1 || n == 2 || n == 3) = b) (w : World) : Calls Try.prog 47 #[.int .i64 n] w fun e w' => e = .returned (.bool b) ∧ w = w' := by
  subst hb
  by_cases h1 : n = 1
  · subst h1
    go_enter Try.func47, Try.ntmps47
    go_wp2_with fail
    go_ret
    exact ⟨rfl, rfl⟩
  · by_cases h2 : n = 2
    · subst h2
      go_enter Try.func47, Try.ntmps47
      go_wp2_with fail
      go_ret
      exact ⟨rfl, rfl⟩
    · by_cases h3 : n = 3
      · subst h3
        go_enter Try.func47, Try.ntmps47
        go_wp2_with fail
        go_ret
        exact ⟨rfl, rfl⟩
      · have d1 : (n == 1) = false := by simp [h1]
        have d2 : (n == 2) = false := by simp [h2]
        have d3 : (n == 3) = false := by simp [h3]
        go_enter Try.func47, Try.ntmps47
        go_wp2_with fail
        go_ret
        exact ⟨ret_bool (by rw [d1, d2, d3]; rfl), rfl⟩
theorem mayBe_is (s : Strip) (w : World) : Calls Try.prog 33 #[.agg #[.int .i64 s.many, .int .i64 s.kind, .int .i64 s.top]] w fun e w' => e = .returned (.bool (okS s)) ∧ Below w.heap.size w w' := by
  obtain ⟨m, k, t⟩ := s
  unfold okS
  simp only
  by_cases h0 : 0 ≤ m
  · have e0 : decide (0 ≤ m) = true := by simp [h0]
    rw [e0]
    obtain ⟨b, hb⟩ : ∃ b, (k == 1 || k == 2 || k == 3) = b := ⟨_, rfl⟩
    rw [hb]
    have HB := Lib.hid hb; clear hb
    cases b
    · go_enter Try.func33, Try.ntmps33
      go_wp2_with fail
      refine (isKind_is _ _ HB.out _).mono ?_; rintro e w' ⟨rfl, rfl⟩
      go_wp2_with fail
      go_ret
      exact ⟨rfl, (Below.refl _ _).alloc (Nat.le_refl _) _⟩
    · by_cases h1 : 0 ≤ t
      · have e1 : decide (0 ≤ t) = true := by simp [h1]
        rw [e1]
        by_cases h2 : t ≤ 1099511627776
        · have e2 : decide (t ≤ 1099511627776) = true := by simp [h2]
          rw [e2]
          go_enter Try.func33, Try.ntmps33
          go_wp2_with fail
          refine (isKind_is _ _ HB.out _).mono ?_; rintro e w' ⟨rfl, rfl⟩
          go_wp2_with fail
          go_ret
          exact ⟨rfl, (Below.refl _ _).alloc (Nat.le_refl _) _⟩
        · have e2 : decide (t ≤ 1099511627776) = false := by simp; omega
          rw [e2]
          go_enter Try.func33, Try.ntmps33
          go_wp2_with fail
          refine (isKind_is _ _ HB.out _).mono ?_; rintro e w' ⟨rfl, rfl⟩
          go_wp2_with fail
          go_ret
          exact ⟨rfl, (Below.refl _ _).alloc (Nat.le_refl _) _⟩
      · have e1 : decide (0 ≤ t) = false := by simp; omega
        rw [e1]
        go_enter Try.func33, Try.ntmps33
        go_wp2_with fail
        refine (isKind_is _ _ HB.out _).mono ?_; rintro e w' ⟨rfl, rfl⟩
        go_wp2_with fail
        go_ret
        exact ⟨rfl, (Below.refl _ _).alloc (Nat.le_refl _) _⟩
  · have e0 : decide (0 ≤ m) = false := by simp; omega
    rw [e0]
    go_enter Try.func33, Try.ntmps33
    go_wp2_with fail
    go_ret
    exact ⟨rfl, (Below.refl _ _).alloc (Nat.le_refl _) _⟩
/-- The sum, cut. -/
def cutS (l : List Strip) (k : Nat) : Int := min (sumS (l.take k)) 32769
theorem cutS_next {l : List Strip} {k : Nat} (hk : k < l.length) (hall : ∀ s ∈ l.take (k + 1), okS s = true) : 0 ≤ cutS l k ∧ cutS l k ≤ 32769 ∧ 0 ≤ l[k].many ∧ cutS l (k + 1) = min (cutS l k + min l[k].many 32769) 32769 := by
  have h1 : 0 ≤ l[k].many := okS_many (hall _ (by rw [List.take_succ_eq_append_getElem hk]; exact List.mem_append.2 (.inr (List.mem_singleton.2 rfl))))
  have h0 : 0 ≤ sumS (l.take k) := sumS_nonneg (fun s hs => okS_many (hall s (by rw [List.take_succ_eq_append_getElem hk]; exact List.mem_append.2 (.inl hs))))
  unfold cutS
  rw [sumS_take hk]
  omega
theorem errS_bad {l : List Strip} {k : Nat} (hk : k < l.length) (h : okS l[k] = false) : errS l = 1 ∧ valS l = 0 := by
  have h1 : errS l = 1 := by
    unfold errS
    rw [if_neg]
    intro hh
    have := List.all_eq_true.1 hh _ (List.getElem_mem hk)
    rw [h] at this; cases this
  exact ⟨h1, by unfold valS; rw [h1]; rfl⟩
theorem errS_end {l : List Strip} (hall : ∀ s ∈ l, okS s = true) : (cutS l l.length = 32769 → errS l = 5 ∧ valS l = 0) ∧ (cutS l l.length ≠ 32769 → errS l = 0 ∧ valS l = cutS l l.length) := by
  have h1 : l.all okS = true := List.all_eq_true.2 hall
  unfold cutS valS errS
  rw [List.take_length, if_pos h1]
  constructor
  · intro h
    rw [if_pos (by omega)]
    exact ⟨rfl, rfl⟩
  · intro h
    rw [if_neg (by omega)]
    exact ⟨rfl, by rw [if_pos rfl]; omega⟩
set_option maxHeartbeats 1000000 in
theorem count_is (w : World) (A : Option Addr) (c n : Nat) (L : List Strip) (hn : L.length = n) (hr : RS w A c L) :
    Calls Try.prog 19 #[.slice A n c] w fun e w' => e = .returned (.tuple #[.int .i64 (valS L), .int .i64 (errS L)]) ∧ Below w.heap.size w w' := by
  subst hn
  have hmax := hr.max
  have R := Lib.hid hr; clear hr
  go_enter Try.func19, Try.ntmps19
  go_wp2_with fail
  go_loopw [9, 4] (fun i m wr => ∃ k : Nat, k ≤ L.length ∧ i = .int .i64 k ∧ m = .int .i64 (cutS L k) ∧ Hid (∀ s ∈ L.take k, okS s = true) ∧ Hid (Below w.heap.size w wr)) (fun i _ _ => L.length - (intOf i).toNat)
  case atStart => exact ⟨0, by omega, rfl, by rw [show cutS L 0 = 0 by unfold cutS; simp [sumS]; decide], Lib.hid (by simp), Lib.hid (.refl _ _)⟩
  case round =>
    obtain ⟨k, hk, rfl, rfl, HO, HB⟩ := hrel
    by_cases hlt : k < L.length
    · obtain ⟨ad, rfl, h0, h1, h2⟩ := (R.out.below HB.out).2.2 k hlt
      cases hok : okS L[k]
      · have HE := Lib.hid (errS_bad hlt hok)
        have HK := Lib.hid hok; clear hok
        go_wp2_with fail
        refine (mayBe_is L[k] _).mono ?_; rintro e w' ⟨rfl, hb⟩
        rw [HK.out]
        have HC := Lib.hid hb; clear hb
        go_wp2_with fail
        go_ret2
        exact ⟨ret_2 HE.out.2.symm HE.out.1.symm, (HB.out.alloc HB.out.size _).trans (HC.out.mono (HB.out.alloc HB.out.size _).size)⟩
      · have HK := Lib.hid hok; clear hok
        have hall : ∀ s ∈ L.take (k + 1), okS s = true := fun s hs => by
          rw [List.take_succ_eq_append_getElem hlt, List.mem_append] at hs
          rcases hs with hs | hs
          · exact HO.out s hs
          · simp at hs; subst hs; exact HK.out
        obtain ⟨g1, g2, g3, g4⟩ := cutS_next hlt hall
        have HA := Lib.hid hall; clear hall
        have HG := Lib.hid g4; clear g4
        obtain ⟨cv, hcv⟩ : ∃ cv, cutS L k = cv := ⟨_, rfl⟩
        rw [hcv] at g1 g2 HG ⊢
        obtain ⟨s, hs⟩ : ∃ s, L[k] = s := ⟨_, rfl⟩
        rw [hs] at h0 h1 h2 HK g3 HG
        clear hs hcv
        obtain ⟨W1, hW1⟩ : ∃ W1, W1 = wr.alloc (.cells #[.int .i64 s.many, .int .i64 s.kind, .int .i64 s.top] 48) := ⟨_, rfl⟩
        have hB1 : Below w.heap.size w W1 := by rw [hW1]; exact HB.out.alloc HB.out.size _
        have hm1 : W1.cell? ⟨wr.heap.size, 0, none⟩ = some (.int .i64 s.many) := by rw [hW1]; exact (has_new _ _ _ 0 _ rfl).1
        have HW := Lib.hid hW1
        have HM := Lib.hid (And.intro hB1 hm1); clear hB1 hm1 hW1
        go_wp2_with fail
        rw [← HW.out]
        refine (mayBe_is s _).mono ?_; rintro e w' ⟨rfl, hb⟩
        rw [HK.out]
        have hm2 := (hb.cell (cell_lt HM.out.2)).trans HM.out.2
        have HB2 := Lib.hid (HM.out.1.trans (hb.mono HM.out.1.size)); clear hb
        go_wp2_with fail
        all_goals
          go_roundw
          case rel => exact ⟨k + 1, by omega, by go_num, by rw [HG.out]; go_num, HA, HB2⟩
          case measure => simp [intOf]; omega
    · obtain rfl : k = L.length := by omega
      rw [List.take_length] at HO
      have hE := errS_end HO.out
      by_cases hc : cutS L L.length = 32769
      · have HE := Lib.hid (hE.1 hc); clear hE
        rw [hc]
        go_wp2_with fail
        go_ret2
        exact ⟨ret_2 HE.out.2.symm HE.out.1.symm, HB.out⟩
      · have HE := Lib.hid (hE.2 hc); clear hE
        have d1 : (cutS L L.length == 32769) = false := by simp [hc]
        clear hc
        go_wp2_with fail
        go_ret2
        exact ⟨ret_2 HE.out.2.symm HE.out.1.symm, HB.out⟩
theorem sumS_le {l : List Strip} (h : ∀ s ∈ l, 0 ≤ s.many) (k : Nat) : sumS (l.take k) ≤ sumS l := by
  have e : sumS l = sumS (l.take k ++ l.drop k) := by rw [List.take_append_drop]
  have hs : ∀ a b : List Strip, sumS (a ++ b) = sumS a + sumS b := fun a b => by
    induction a with
    | nil => simp [sumS]
    | cons x a ih => simp only [List.cons_append, sumS, ih]; omega
  have := sumS_nonneg (l := l.drop k) (fun s hs => h s (List.mem_of_mem_drop hs))
  rw [e, hs]; omega
/-- The strip of the cell n, as At answers. -/
def atV (L : List Strip) (n : Int) : Value := match (if n < 0 then none else stripAt L n) with
  | some s => .tuple #[.agg #[.int .i64 1, .int .i64 s.kind, .int .i64 s.top], .bool true]
  | none => .tuple #[.agg #[.int .i64 0, .int .i64 0, .int .i64 0], .bool false]
theorem atV_some {L : List Strip} {n : Int} {s : Strip} (h0 : 0 ≤ n) (h : stripAt L n = some s) : atV L n = .tuple #[.agg #[.int .i64 1, .int .i64 s.kind, .int .i64 s.top], .bool true] := by
  unfold atV; rw [if_neg (by omega), h]
theorem atV_none {L : List Strip} {n : Int} (h : n < 0 ∨ stripAt L n = none) : atV L n = .tuple #[.agg #[.int .i64 0, .int .i64 0, .int .i64 0], .bool false] := by
  unfold atV
  by_cases h0 : n < 0
  · rw [if_pos h0]
  · rw [if_neg h0]
    rcases h with h | h
    · exact absurd h h0
    · rw [h]
theorem ret_v {a b : Value} (h : a = b) : Ending.returned a = .returned b := by rw [h]
end Go.Proofs.Ytdfkmkflcnfchaa
