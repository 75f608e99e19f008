/- Of which strip a cell is: At, the reference's At. Own work. -/
import Derived.Test.YtdfkmkflcnfchaaStrip
namespace Go.Proofs.Ytdfkmkflcnfchaa
open Go.ChangeShapes Go.WideShapes Go.ChangeAt Go.RowKit CellM

theorem stripAt_take {L : List Strip} {k : Nat} (hk : k < L.length) {n m : Int} (h : stripAt L n = stripAt (L.drop k) m) (hm : ¬ m < L[k].many) : stripAt L n = stripAt (L.drop (k + 1)) (m - L[k].many) := by
  rw [h, stripAt_drop hk, if_neg hm]
theorem stripAt_hit {L : List Strip} {k : Nat} (hk : k < L.length) {n m : Int} (h : stripAt L n = stripAt (L.drop k) m) (hm : m < L[k].many) : stripAt L n = some L[k] := by
  rw [h, stripAt_drop hk, if_pos hm]
theorem stripAt_end {L : List Strip} {n m : Int} (h : stripAt L n = stripAt (L.drop L.length) m) : stripAt L n = none := by
  rw [h, List.drop_length]; rfl
/-- The block of a result, zero as yet. -/
structure Zero3 (w wr : World) : Prop where
  below : Below w.heap.size w wr
  z0 : Has wr ⟨w.heap.size, 0, none⟩ (.int .i64 0)
  z1 : Has wr ⟨w.heap.size, 1, none⟩ (.int .i64 0)
  z2 : Has wr ⟨w.heap.size, 2, none⟩ (.int .i64 0)
theorem Zero3.start (w : World) (t : TypeId) : Zero3 w (w.alloc (.cells #[.int .i64 0, .int .i64 0, .int .i64 0] t)) :=
  ⟨(Below.refl _ _).alloc (Nat.le_refl _) _, has_new _ _ _ 0 _ rfl, has_new _ _ _ 1 _ rfl, has_new _ _ _ 2 _ rfl⟩
theorem Zero3.grow {w wr w' : World} (h : Zero3 w wr) (hb : Below wr.heap.size wr w') : Zero3 w w' :=
  ⟨h.below.trans (hb.mono h.below.size), h.z0.below hb h.z0.lt, h.z1.below hb h.z1.lt, h.z2.below hb h.z2.lt⟩
theorem Zero3.alloc {w wr : World} (h : Zero3 w wr) (o : Obj) : Zero3 w (wr.alloc o) := h.grow ((Below.refl _ _).alloc (Nat.le_refl _) o)
theorem Zero3.put {w wr : World} (h : Zero3 w wr) (a b c : Value) (o : Obj) :
    ((((wr.setCell ⟨w.heap.size, 0, none⟩ a).setCell ⟨w.heap.size, 1, none⟩ b).setCell ⟨w.heap.size, 2, none⟩ c).alloc o).cell? ⟨w.heap.size, 0, none⟩ = some a ∧
    ((((wr.setCell ⟨w.heap.size, 0, none⟩ a).setCell ⟨w.heap.size, 1, none⟩ b).setCell ⟨w.heap.size, 2, none⟩ c).alloc o).cell? ⟨w.heap.size, 1, none⟩ = some b ∧
    ((((wr.setCell ⟨w.heap.size, 0, none⟩ a).setCell ⟨w.heap.size, 1, none⟩ b).setCell ⟨w.heap.size, 2, none⟩ c).alloc o).cell? ⟨w.heap.size, 2, none⟩ = some c := by
  have hne : ∀ i j, i ≠ j → (⟨w.heap.size, i, none⟩ : Addr) ≠ ⟨w.heap.size, j, none⟩ := fun i j hi e => hi (by simp only [Addr.mk.injEq] at e; omega)
  exact ⟨((((h.z0.same (y := a)).other (hne 1 0 (by decide))).other (hne 2 0 (by decide))).alloc o).1,
    ((((h.z1.other (y := a) (hne 0 1 (by decide))).same (y := b)).other (hne 2 1 (by decide))).alloc o).1,
    ((((h.z2.other (y := a) (hne 0 2 (by decide))).other (y := b) (hne 1 2 (by decide))).same (y := c)).alloc o).1⟩
set_option maxHeartbeats 2000000 in
theorem atR_is (w : World) (A : Option Addr) (c len : Nat) (L : List Strip) (n : Int) (hn : L.length = len) (hr : RS w A c L) (hok : errS L = 0) :
    Calls Try.prog 27 #[.slice A len c, .int .i64 n] w fun e w' => e = .returned (atV L n) ∧ Below w.heap.size w w' := by
  subst hn
  have hmax := hr.max
  have R := Lib.hid hr; clear hr
  have HM := Lib.hid (errS_many hok)
  have HS := Lib.hid (errS_ok hok).2
  have Z0 := Lib.hid (Zero3.start w 48)
  clear hok
  go_enter Try.func27, Try.ntmps27
  go_wp2_with fail
  go_loopw [7, 6] (fun i m wr => ∃ k : Nat, k ≤ L.length ∧ i = .int .i64 k ∧ m = .int .i64 (sumS (L.take k)) ∧ Hid (0 ≤ n → sumS (L.take k) ≤ n ∧ stripAt L n = stripAt (L.drop k) (n - sumS (L.take k))) ∧ Hid (Zero3 w wr)) (fun i _ _ => L.length - (intOf i).toNat)
  case atStart => exact ⟨0, by omega, rfl, by simp [sumS], Lib.hid (fun h => ⟨by simpa [sumS] using h, by simp [sumS]⟩), Z0⟩
  case round =>
    obtain ⟨k, hk, rfl, rfl, HO, HZ⟩ := hrel
    have g0 : 0 ≤ sumS (L.take k) := sumS_nonneg (fun s hs => HM.out s (List.mem_of_mem_take hs))
    have g1 : sumS (L.take k) ≤ 32768 := Int.le_trans (sumS_le HM.out k) HS.out
    by_cases hlt : k < L.length
    · obtain ⟨ad, rfl, h0, h1, h2⟩ := (R.out.below HZ.out.below).2.2 k hlt
      have hnx := Lib.hid (sumS_take hlt)
      have g2 : 0 ≤ L[k].many := HM.out _ (List.getElem_mem hlt)
      have g3 : sumS (L.take k) + L[k].many ≤ 32768 := by rw [← hnx.out]; exact Int.le_trans (sumS_le HM.out (k + 1)) HS.out
      have HHit := Lib.hid (fun m (h : stripAt L n = stripAt (L.drop k) m) => stripAt_hit hlt h)
      have HTak := Lib.hid (fun m (h : stripAt L n = stripAt (L.drop k) m) => stripAt_take hlt h)
      obtain ⟨sv, hsv⟩ : ∃ sv, sumS (L.take k) = sv := ⟨_, rfl⟩
      rw [hsv] at HO g0 g1 hnx g3 ⊢
      obtain ⟨s, hs⟩ : ∃ s, L[k] = s := ⟨_, rfl⟩
      rw [hs] at h0 h1 h2 hnx g2 g3 HHit HTak
      clear hs hsv
      by_cases hn1 : sv ≤ n
      · have d1 : decide (sv ≤ n) = true := by simp [hn1]
        have hw1 : IntKind.i64.wrap (sv + s.many) = sv + s.many := by rw [IntKind.wrap_i64]; omega
        by_cases hn2 : n < sv + s.many
        · have hv : Hid (atV L n = .tuple #[.agg #[.int .i64 1, .int .i64 s.kind, .int .i64 s.top], .bool true]) := Lib.hid (atV_some (by omega) (HHit.out _ (HO.out (by omega)).2 (by omega)))
          have z0 := HZ.out.z0.1
          have z1 := HZ.out.z1.1
          have z2 := HZ.out.z2.1
          have f0 := HZ.out.z0.2
          have f1 := HZ.out.z1.2
          have f2 := HZ.out.z2.2
          have d2 : decide (n < sv + s.many) = true := by simp [hn2]
          go_wp2_with fail
          go_region
          all_goals
            go_wp2_with fail
            refine bodyPost_ret (v := .tuple #[.agg #[.int .i64 1, .int .i64 s.kind, .int .i64 s.top], .bool true]) (by simp [results, Try.results27, go_sem, z0, z1, z2]) rfl ⟨ret_v hv.out.symm, ?_⟩
            first
            | exact (((HZ.out.below.drew.setCell (p := ⟨w.heap.size, 0, none⟩) (Nat.le_refl _) _).setCell (p := ⟨w.heap.size, 1, none⟩) (Nat.le_refl _) _).setCell (p := ⟨w.heap.size, 2, none⟩) (Nat.le_refl _) _)
            | exact (((HZ.out.below.setCell (p := ⟨w.heap.size, 0, none⟩) (Nat.le_refl _) _).setCell (p := ⟨w.heap.size, 1, none⟩) (Nat.le_refl _) _).setCell (p := ⟨w.heap.size, 2, none⟩) (Nat.le_refl _) _)
        · have hT : Hid (0 ≤ n → sv + s.many ≤ n ∧ stripAt L n = stripAt (L.drop (k + 1)) (n - (sv + s.many))) := Lib.hid (fun h => ⟨by omega, by
            have := HTak.out _ (HO.out h).2 (by omega)
            rw [this]; congr 1; omega⟩)
          have d2 : decide (n < sv + s.many) = false := by simp; omega
          go_wp2_with fail
          go_roundw
          case rel => exact ⟨k + 1, by omega, by go_num, by rw [hnx.out], Lib.hid (by rw [hnx.out]; exact hT.out), HZ⟩
          case measure => simp [intOf]; omega
      · have d1 : decide (sv ≤ n) = false := by simp; omega
        have hT : Hid (0 ≤ n → sv + s.many ≤ n ∧ stripAt L n = stripAt (L.drop (k + 1)) (n - (sv + s.many))) := Lib.hid (fun h => absurd (HO.out h).1 hn1)
        go_wp2_with fail
        go_roundw
        case rel => exact ⟨k + 1, by omega, by go_num, by rw [hnx.out], Lib.hid (by rw [hnx.out]; exact hT.out), HZ⟩
        case measure => simp [intOf]; omega
    · obtain rfl : k = L.length := by omega
      have hv : Hid (atV L n = .tuple #[.agg #[.int .i64 0, .int .i64 0, .int .i64 0], .bool false]) := Lib.hid (atV_none (by
        by_cases h0 : n < 0
        · exact .inl h0
        · exact .inr (stripAt_end (HO.out (by omega)).2)))
      have z0 := HZ.out.z0.1
      have z1 := HZ.out.z1.1
      have z2 := HZ.out.z2.1
      have f0 := HZ.out.z0.2
      have f1 := HZ.out.z1.2
      have f2 := HZ.out.z2.2
      go_wp2_with fail
      refine bodyPost_ret (v := .tuple #[.agg #[.int .i64 0, .int .i64 0, .int .i64 0], .bool false]) (by simp [results, Try.results27, go_sem, z0, z1, z2]) rfl ?_
      exact ⟨ret_v hv.out.symm, (((HZ.out.below.setCell (p := ⟨w.heap.size, 0, none⟩) (Nat.le_refl _) _).setCell (p := ⟨w.heap.size, 1, none⟩) (Nat.le_refl _) _).setCell (p := ⟨w.heap.size, 2, none⟩) (Nat.le_refl _) _)⟩
set_option maxHeartbeats 2000000 in
theorem atP_is (w : World) (A : Option Addr) (c len : Nat) (L : List Strip) (n : Int) (hn : L.length = len) (hr : RS w A c L) (hok : errS L = 0) (h0 : 0 ≤ n) (h1 : n ≤ 1000000) :
    Calls Try.prog 18 #[.slice A len c, .int .i64 n] w fun e w' => e = .returned (atV L n) ∧ Below w.heap.size w w' := by
  subst hn
  have hmax := hr.max
  have R := Lib.hid hr; clear hr
  have HM := Lib.hid (errS_many hok)
  have HS := Lib.hid (errS_ok hok).2
  have Z0 := Lib.hid (Zero3.start w 48)
  have HC := Lib.hid (count_is (w.alloc (.cells #[.int .i64 0, .int .i64 0, .int .i64 0] 48)) A c L.length L rfl (R.out.below Z0.out.below))
  have dn : decide (n < 0) = false := by simp; omega
  rw [hok] at HC
  clear hok
  go_enter Try.func18, Try.ntmps18
  go_wp2_with fail
  refine HC.out.mono ?_; rintro e w1 ⟨rfl, hb⟩
  have Z1 := Lib.hid (Z0.out.grow hb); clear hb
  go_wp2_with fail
  go_loopw [24, 1] (fun i m wr => ∃ k : Nat, k ≤ L.length ∧ i = .int .i64 k ∧ m = .int .i64 (n - sumS (L.take k)) ∧ Hid (sumS (L.take k) ≤ n ∧ stripAt L n = stripAt (L.drop k) (n - sumS (L.take k))) ∧ Hid (Zero3 w wr)) (fun i _ _ => L.length - (intOf i).toNat)
  case atStart => exact ⟨0, by omega, rfl, by simp [sumS], Lib.hid ⟨by simpa [sumS] using h0, by simp [sumS]⟩, Z1⟩
  case round =>
    obtain ⟨k, hk, rfl, rfl, HO, HZ⟩ := hrel
    have g0 : 0 ≤ sumS (L.take k) := sumS_nonneg (fun s hs => HM.out s (List.mem_of_mem_take hs))
    have g1 : sumS (L.take k) ≤ n := HO.out.1
    by_cases hlt : k < L.length
    · obtain ⟨ad, rfl, h0, h1, h2⟩ := (R.out.below HZ.out.below).2.2 k hlt
      have hnx := Lib.hid (sumS_take hlt)
      have g2 : 0 ≤ L[k].many := HM.out _ (List.getElem_mem hlt)
      have HHit := Lib.hid (fun m (h : stripAt L n = stripAt (L.drop k) m) => stripAt_hit hlt h)
      have HTak := Lib.hid (fun m (h : stripAt L n = stripAt (L.drop k) m) => stripAt_take hlt h)
      obtain ⟨sv, hsv⟩ : ∃ sv, sumS (L.take k) = sv := ⟨_, rfl⟩
      rw [hsv] at HO g0 g1 hnx ⊢
      obtain ⟨s, hs⟩ : ∃ s, L[k] = s := ⟨_, rfl⟩
      rw [hs] at h0 h1 h2 hnx g2 HHit HTak
      clear hs hsv
      by_cases hn2 : n - sv < s.many
      · have hv : Hid (atV L n = .tuple #[.agg #[.int .i64 1, .int .i64 s.kind, .int .i64 s.top], .bool true]) := Lib.hid (atV_some (by omega) (HHit.out _ HO.out.2 (by omega)))
        have hbl : w.heap.size < wr.heap.size := HZ.out.z0.lt
        have z0 := HZ.out.z0.1
        have z1 := HZ.out.z1.1
        have z2 := HZ.out.z2.1
        have f0 := HZ.out.z0.2
        have f1 := HZ.out.z1.2
        have f2 := HZ.out.z2.2
        have d2 : decide (n - sv < s.many) = true := by simp [hn2]
        have hY := HZ.out.put (.int .i64 1) (.int .i64 s.kind) (.int .i64 s.top) (.cells #[.int .i64 1, .int .i64 s.kind, .int .i64 s.top] 48)
        have HY := Lib.hid hY; clear hY
        go_wp2_with fail
        refine bodyPost_ret (v := .tuple #[.agg #[.int .i64 1, .int .i64 s.kind, .int .i64 s.top], .bool true]) (by simp [results, Try.results18, go_sem, HY.out.1, HY.out.2.1, HY.out.2.2]) rfl ⟨ret_v hv.out.symm, ?_⟩
        first
        | exact ((((HZ.out.below.setCell (p := ⟨w.heap.size, 0, none⟩) (Nat.le_refl _) _).setCell (p := ⟨w.heap.size, 1, none⟩) (Nat.le_refl _) _).setCell (p := ⟨w.heap.size, 2, none⟩) (Nat.le_refl _) _).alloc (by simp [World.setCell]; exact HZ.out.below.size) _)
        | go_grown
      · have hT : Hid (sv + s.many ≤ n ∧ stripAt L n = stripAt (L.drop (k + 1)) (n - (sv + s.many))) := Lib.hid ⟨by omega, by
          have := HTak.out _ HO.out.2 (by omega)
          rw [this]; congr 1; omega⟩
        have d2 : decide (n - sv < s.many) = false := by simp; omega
        go_wp2_with fail
        go_roundw
        case rel => exact ⟨k + 1, by omega, by go_num, by rw [hnx.out]; go_num, Lib.hid (by rw [hnx.out]; exact hT.out), Lib.hid (HZ.out.alloc _)⟩
        case measure => simp [intOf]; omega
    · obtain rfl : k = L.length := by omega
      have hv : Hid (atV L n = .tuple #[.agg #[.int .i64 0, .int .i64 0, .int .i64 0], .bool false]) := Lib.hid (atV_none (.inr (stripAt_end HO.out.2)))
      have z0 := HZ.out.z0.1
      have z1 := HZ.out.z1.1
      have z2 := HZ.out.z2.1
      have f0 := HZ.out.z0.2
      have f1 := HZ.out.z1.2
      have f2 := HZ.out.z2.2
      go_wp2_with fail
      refine bodyPost_ret (v := .tuple #[.agg #[.int .i64 0, .int .i64 0, .int .i64 0], .bool false]) (by simp [results, Try.results18, go_sem, z0, z1, z2]) rfl ?_
      exact ⟨ret_v hv.out.symm, (((HZ.out.below.setCell (p := ⟨w.heap.size, 0, none⟩) (Nat.le_refl _) _).setCell (p := ⟨w.heap.size, 1, none⟩) (Nat.le_refl _) _).setCell (p := ⟨w.heap.size, 2, none⟩) (Nat.le_refl _) _)⟩
end Go.Proofs.Ytdfkmkflcnfchaa
