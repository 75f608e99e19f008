/- The reference's Same, of two outcomes that are the same. Own work. -/
import Derived.Test.YtjffgppdjdmmgaaTTold
import Derived.Test.YtjffgppdjdmmgaaInts
import Derived.Laws.StructEq
namespace Go.Proofs.Ytjffgppdjdmmgaa
open Go.ChangeShapes Go.WideShapes Go.ChangeAt Go.RowKit CellM TapeM

theorem row_ac {w : World} {A : Option Addr} {h c n : Nat} {L : List TapeM.Ac} (H : RowK w 3 A h c n (flatAc L)) (hn : L.length = n) {k : Nat} (hk : k < L.length) :
    A = some ⟨h, 0, none⟩ ∧ w.cell? ⟨h, k * 3, none⟩ = some (.int .i64 L[k].k) ∧ w.cell? ⟨h, k * 3 + 1, none⟩ = some (.int .i64 L[k].c) ∧ w.cell? ⟨h, k * 3 + 2, none⟩ = some (.int .i64 L[k].v) := by
  have hg : ∀ q x, (cellsAc L[k])[q]? = some x → w.cell? ⟨h, k * 3 + q, none⟩ = some x := fun q x hx => (H.at_ _ x (fm_at (f := cellsAc) (k := 3) (fun _ => rfl) L k L[k] q x (List.getElem?_eq_getElem hk) hx)).1
  exact ⟨(H.get (i := k) (by omega)).1, hg 0 _ rfl, hg 1 _ rfl, hg 2 _ rfl⟩
theorem row_nt {w : World} {A : Option Addr} {h c n : Nat} {L : List Nt} (H : RowK w 2 A h c n (flatNt L)) (hn : L.length = n) {k : Nat} (hk : k < L.length) :
    A = some ⟨h, 0, none⟩ ∧ w.cell? ⟨h, k * 2, none⟩ = some (.int .i64 L[k].k) ∧ w.cell? ⟨h, k * 2 + 1, none⟩ = some (.int .i64 L[k].a) := by
  have hg : ∀ q x, (cellsNt L[k])[q]? = some x → w.cell? ⟨h, k * 2 + q, none⟩ = some x := fun q x hx => (H.at_ _ x (fm_at (f := cellsNt) (k := 2) (fun _ => rfl) L k L[k] q x (List.getElem?_eq_getElem hk) hx)).1
  exact ⟨(H.get (i := k) (by omega)).1, hg 0 _ rfl, hg 1 _ rfl⟩
set_option maxHeartbeats 4000000 in
theorem same_of (w : World) (d : Bool) (acc : List TapeM.Ac) (nts : List Nt) (lo : List Int) (n1 n2 n3 : Nat) (hn1 : acc.length = n1) (hn2 : nts.length = n2) (hn3 : lo.length = n3) (A1 A2 A3 B1 B2 B3 : Option Addr) (h1 h2 g1 g2 c1 c2 c3 e1 e2 e3 : Nat)
    (hA1 : RowK w 3 A1 h1 c1 n1 (flatAc acc)) (hA2 : RowK w 2 A2 h2 c2 n2 (flatNt nts)) (hA3 : RI w A3 c3 lo) (hB1 : RowK w 3 B1 g1 e1 n1 (flatAc acc)) (hB2 : RowK w 2 B2 g2 e2 n2 (flatNt nts)) (hB3 : RI w B3 e3 lo) :
    Calls Try.prog 14 #[outV d A1 A2 A3 n1 n2 n3 c1 c2 c3, outV d B1 B2 B3 n1 n2 n3 e1 e2 e3] w fun e w' => e = .returned (.bool true) ∧ Below w.heap.size w w' := by
  have hm1 : n1 ≤ maxLen := Nat.le_trans hA1.le hA1.max
  have hm2 : n2 ≤ maxLen := Nat.le_trans hA2.le hA2.max
  unfold maxLen at hm1 hm2
  obtain ⟨W, hW⟩ : ∃ W, W = (w.alloc (.cells #[.bool d, .slice A1 n1 c1, .slice A2 n2 c2, .slice A3 n3 c3] 30)).alloc (.cells #[.bool d, .slice B1 n1 e1, .slice B2 n2 e2, .slice B3 n3 e3] 30) := ⟨_, rfl⟩
  have hB : Below w.heap.size w W := by rw [hW]; exact ((Below.refl _ _).alloc (Nat.le_refl _) _).alloc (by simp) _
  have ha : ∀ i x, (#[.bool d, .slice A1 n1 c1, .slice A2 n2 c2, .slice A3 n3 c3] : Array Value)[i]? = some x → Has W ⟨w.heap.size, i, none⟩ x := fun i x hx => by rw [hW]; exact (has_new w _ _ i x hx).alloc _
  have hb : ∀ i x, (#[.bool d, .slice B1 n1 e1, .slice B2 n2 e2, .slice B3 n3 e3] : Array Value)[i]? = some x → Has W ⟨w.heap.size + 1, i, none⟩ x := fun i x hx => by
    rw [hW]
    have := has_new (w.alloc (.cells #[.bool d, .slice A1 n1 c1, .slice A2 n2 c2, .slice A3 n3 c3] 30)) #[.bool d, .slice B1 n1 e1, .slice B2 n2 e2, .slice B3 n3 e3] 30 i x hx
    simpa using this
  have a0 : W.cell? ⟨w.heap.size, 0, none⟩ = some (.bool d) := (ha 0 _ rfl).1
  have a1 : W.cell? ⟨w.heap.size, 1, none⟩ = some (.slice A1 n1 c1) := (ha 1 _ rfl).1
  have a2 : W.cell? ⟨w.heap.size, 2, none⟩ = some (.slice A2 n2 c2) := (ha 2 _ rfl).1
  have a3 : W.cell? ⟨w.heap.size, 3, none⟩ = some (.slice A3 n3 c3) := (ha 3 _ rfl).1
  have b0 : W.cell? ⟨w.heap.size + 1, 0, none⟩ = some (.bool d) := (hb 0 _ rfl).1
  have b1 : W.cell? ⟨w.heap.size + 1, 1, none⟩ = some (.slice B1 n1 e1) := (hb 1 _ rfl).1
  have b2 : W.cell? ⟨w.heap.size + 1, 2, none⟩ = some (.slice B2 n2 e2) := (hb 2 _ rfl).1
  have b3 : W.cell? ⟨w.heap.size + 1, 3, none⟩ = some (.slice B3 n3 e3) := (hb 3 _ rfl).1
  have HI := Lib.hid (fun (wx : World) (h : Below W.heap.size W wx) => ints_is A3 B3 c3 e3 n3 n3 lo lo hn3 hn3 wx ((hA3.below hB).below h) ((hB3.below hB).below h) true (by simp))
  have HA := Lib.hid (And.intro (hA1.below hB) (And.intro (hB1.below hB) (And.intro (hA2.below hB) (hB2.below hB))))
  have HN := Lib.hid (And.intro hn1 hn2)
  have HW := Lib.hid hW
  have HB := Lib.hid hB
  have d0 : (d != d) = false := by simp
  clear hA1 hA2 hA3 hB1 hB2 hB3 ha hb hW hB hn1 hn2 hn3
  unfold outV
  go_enter Try.func14, Try.ntmps14
  go_upto_region 1 with fail
  rw [← HW.out]
  go_wp2_with fail
  refine (HI.out _ (Below.refl _ _)).mono ?_; rintro e w' ⟨rfl, q0, rfl⟩
  clear HI
  go_wp2_with fail
  go_loopw [5] (fun i wr => ∃ k q : Nat, k ≤ n1 ∧ i = .int .i64 k ∧ wr = W.drewN q) (fun i _ => n1 - (intOf i).toNat)
  case atStart => exact ⟨0, q0, by omega, rfl, rfl⟩
  case round =>
    obtain ⟨k, q, hk, rfl, rfl⟩ := hrel
    by_cases hlt : k < n1
    · have hka : k < acc.length := by rw [HN.out.1]; exact hlt
      obtain ⟨hA, x0, x1, x2⟩ := row_ac HA.out.1 HN.out.1 hka
      obtain ⟨hB', y0, y1, y2⟩ := row_ac HA.out.2.1 HN.out.1 hka
      rw [hA] at a1
      rw [hB'] at b1
      obtain ⟨u, hu⟩ : ∃ u, u = acc[k] := ⟨_, rfl⟩
      rw [← hu] at x0 x1 x2 y0 y1 y2
      obtain ⟨u1, u2, u3⟩ := u
      simp only at x0 x1 x2 y0 y1 y2
      have z1 : (u1 == u1) = true := by simp
      have z2 : (u2 == u2) = true := by simp
      have z3 : (u3 == u3) = true := by simp
      clear hu hA hB' hka
      go_wp2_with fail
      go_quiet (fail)
      go_wp2_with fail
      go_roundw
      case rel => exact ⟨k + 1, _, by omega, by go_num, rfl⟩
      case measure => simp [intOf]; omega
    · obtain rfl : k = n1 := by omega
      go_wp2_with fail
      go_loopw [6] (fun i wr => ∃ j q : Nat, j ≤ n2 ∧ i = .int .i64 j ∧ wr = W.drewN q) (fun i _ => n2 - (intOf i).toNat)
      case atStart => exact ⟨0, q, by omega, rfl, rfl⟩
      case round =>
        obtain ⟨j, q', hj, rfl, rfl⟩ := hrel
        by_cases hlt' : j < n2
        · have hka : j < nts.length := by rw [HN.out.2]; exact hlt'
          obtain ⟨hA, x0, x1⟩ := row_nt HA.out.2.2.1 HN.out.2 hka
          obtain ⟨hB', y0, y1⟩ := row_nt HA.out.2.2.2 HN.out.2 hka
          rw [hA] at a2
          rw [hB'] at b2
          obtain ⟨u, hu⟩ : ∃ u, u = nts[j] := ⟨_, rfl⟩
          rw [← hu] at x0 x1 y0 y1
          obtain ⟨u1, u2⟩ := u
          simp only at x0 x1 y0 y1
          have z1 : (u1 == u1) = true := by simp
          have z2 : (u2 == u2) = true := by simp
          clear hu hA hB' hka hlt
          go_wp2_with fail
          go_quiet (fail)
          go_wp2_with fail
          go_roundw
          case rel => exact ⟨j + 1, _, by omega, by go_num, rfl⟩
          case measure => simp [intOf]; omega
        · clear hlt
          go_wp2_with fail
          go_ret
          exact ⟨rfl, HB.out.trans ((bl_drewN W _).mono HB.out.size)⟩
theorem same_is {w : World} {o1 o2 : Value} {d : Bool} {S T : TS} (h1 : OutAt w o1 d S) (h2 : OutAt w o2 d T) (ha : S.acc = T.acc) (hn : S.nts = T.nts) (hl : TapeM.Alike S.loc T.loc) :
    Calls Try.prog 14 #[o1, o2] w fun e w' => e = .returned (.bool true) ∧ Below w.heap.size w w' := by
  obtain ⟨A1, A2, A3, h1', h2', c1, c2, c3, rfl, H⟩ := h1
  obtain ⟨B1, B2, B3, g1, g2, e1, e2, e3, rfl, G⟩ := h2
  have G1 := G.r1
  have G2 := G.r2
  have G3 := G.r3
  rw [← ha, ← hn, ← hl.shN]
  rw [← ha] at G1
  rw [← hn] at G2
  rw [← hl.short] at G3
  exact same_of w d S.acc S.nts (short S.loc) _ _ _ rfl rfl (short_len _) A1 A2 A3 B1 B2 B3 h1' h2' g1 g2 c1 c2 c3 e1 e2 e3 H.r1 H.r2 H.r3 G1 G2 G3
end Go.Proofs.Ytjffgppdjdmmgaa
