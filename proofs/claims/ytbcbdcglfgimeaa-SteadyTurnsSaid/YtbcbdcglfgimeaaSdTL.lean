/- SteadyTurns: the whole. Own work. -/
import Derived.Test.YtbcbdcglfgimeaaSdTC
import Derived.Test.YtbcbdcglfgimeaaSdA2
import Derived.Test.YtbcbdcglfgimeaaZero
import Derived.Deep.DeepCutAuto
namespace Go.Proofs.Ytbcbdcglfgimeaa
open Go.ChangeShapes Go.WideShapes Go.ChangeAt Go.RowKit CellM TapeM

/-- What the play gives: accesses that take turns. -/
theorem playTurns {w : World} {A0 AA : Option Addr} {c0 ac n0 : Nat} {L ans : List Int} (b1 b2 : Nat) (hn0 : L.length = n0) (hm : ans.length = n0) (h3 : n0 ≤ 60) (hA : RI w A0 c0 L) (hr : RI w AA ac ans)
    (hb1 : Has w ⟨b1, 0, none⟩ (.slice A0 n0 c0)) (hb2 : BoxAt w b2 #[.int .i64 2, .int .i64 1, .int .i64 0, .int .i64 0, .int .i64 0, .int .i64 0, .int .i64 0]) :
    Calls Try.prog 7 #[.func (.func 16) #[] #[.pointer (some ⟨b1, 0, none⟩), .pointer (some ⟨b2, 0, none⟩)], .slice none 0 0, .slice AA n0 ac] w fun e w' =>
      ∃ A1 A2 A3 m1 m2 m3 g c1 c2 c3, e = .returned (.tuple #[.int .i64 0, .agg #[.bool true, .slice A1 m1 c1, .slice A2 m2 c2, .slice A3 m3 c3]]) ∧ m1 ≤ n0 ∧ RowK w' 3 A1 g c1 m1 (flatAc (alt m1)) ∧ Below w.heap.size w w' := by
  obtain ⟨T, m', h1, h2, h4⟩ := turns ans L ⟨[], [], short []⟩ 0 rfl (by rfl) (by omega)
  refine (playT_is (wrAll (fun x => wrSd 1 0 x) L) 0 (wrAll_nb (fun x => bitI_nb 1 0 x) L) (by decide) 16 #[.pointer (some ⟨b1, 0, none⟩), .pointer (some ⟨b2, 0, none⟩)] enter16 (lo := []) rfl hm (by decide) (by omega) (RI.nil w) hr (.go T 0) h1
    (fun C hC hb H => turnsClo_is A0 c0 n0 L hn0 2 1 0 0 0 0 0 b1 b2 (hb1.below hb hb1.lt) (hb2.grow hb) (by rw [hC]; exact hb1.lt) (by rw [hC]; exact (hb2 0 _ rfl).lt) (fun w' hx => hA.below (hb.trans (hC ▸ hx))) H)).mono ?_
  rintro e w1 ⟨o, rfl, hOB, hB⟩
  obtain ⟨A1, A2, A3, g1, g2, c1, c2, c3, rfl, hD⟩ := hOB.at_
  have hr1 : RowK w1 3 A1 g1 c1 T.acc.length (flatAc T.acc) := hD.r1
  have hl : T.acc.length = m' := by rw [h2, alt_len]
  rw [hl, h2] at hr1
  refine ⟨A1, A2, A3, m', T.nts.length, shN T.loc, g1, c1, c2, c3, ?_, by omega, hr1, hB⟩
  rw [← hl]
  rfl
set_option maxHeartbeats 4000000 in
theorem steadyTurns_is (w : World) (A0 : Option Addr) (c0 n0 : Nat) (L : List Int) (hn0 : L.length = n0) (hA : RI w A0 c0 L) :
    Calls Try.prog 4 #[.slice A0 n0 c0] w fun e w' => e = .returned (.bool true) ∧ Below w.heap.size w w' := by
  have hm0 : n0 ≤ maxLen := by have := hA.max; omega
  unfold maxLen at hm0
  have hB0 := below_alloc w (.cells #[.slice A0 n0 c0] 24)
  have HB0 := Lib.hid hB0
  by_cases hbig : 60 < n0
  · clear hA hn0 hB0
    go_enter Try.func4, Try.ntmps4
    go_wp2_with fail
    refine (alive11_is _).mono ?_; rintro e w' ⟨rfl, hb⟩
    have HB := Lib.hid (HB0.out.trans (hb.mono HB0.out.size))
    clear hb
    go_wp2_with fail
    go_ret
    exact ⟨rfl, HB.out⟩
  · obtain ⟨W, hW⟩ : ∃ W, W = ((w.alloc (.cells #[.slice A0 n0 c0] 24)).alloc (.cells #[.int .i64 2, .int .i64 1, .int .i64 0, .int .i64 0, .int .i64 0, .int .i64 0, .int .i64 0] 23)).alloc (.cells (zeroCells n0) 3) := ⟨_, rfl⟩
    have hbW : Below w.heap.size w W := by rw [hW]; exact ((below_alloc _ _).alloc (by simp) _).alloc (by simp; omega) _
    have hbx : Has W ⟨w.heap.size, 0, none⟩ (.slice A0 n0 c0) := by rw [hW]; exact ((has_new w _ _ 0 _ rfl).alloc _).alloc _
    have hbr : BoxAt W (w.heap.size + 1) #[.int .i64 2, .int .i64 1, .int .i64 0, .int .i64 0, .int .i64 0, .int .i64 0, .int .i64 0] := by
      have := BoxAt.new (w.alloc (.cells #[.slice A0 n0 c0] 24)) #[.int .i64 2, .int .i64 1, .int .i64 0, .int .i64 0, .int .i64 0, .int .i64 0, .int .i64 0] 23
      rw [size_alloc'] at this
      rw [hW]; exact this.grow (below_alloc _ _)
    have hri : RI W (some ⟨w.heap.size + 1 + 1, 0, none⟩) n0 (List.replicate n0 0) := by
      have := zeros_ri n0 (by omega) ((w.alloc (.cells #[.slice A0 n0 c0] 24)).alloc (.cells #[.int .i64 2, .int .i64 1, .int .i64 0, .int .i64 0, .int .i64 0, .int .i64 0, .int .i64 0] 23))
      rw [size_alloc', size_alloc'] at this
      rw [hW]; exact this
    have HP := Lib.hid (playTurns (ans := List.replicate n0 0) w.heap.size (w.heap.size + 1) hn0 (by simp) (by omega) (hA.below hbW) hri hbx hbr)
    have hz := zeros_run n0 (by omega)
    have x0 := hbx.1
    have HW := Lib.hid hW
    have HH := Lib.hid (And.intro hbx hbW)
    have hmf : ∀ (fn : Fn) (first cap : Array Value) (w : World), (Instr.makeFunc fn first cap).run Try.prog w = .ok (.func fn first cap) w := fun _ _ _ _ => rfl
    clear hbW hbx hbr hri hA hW hn0 hB0
    go_enter Try.func4, Try.ntmps4
    go_wp2_with fail
    rw [← HW.out]
    refine HP.out.mono ?_
    rintro e w1 ⟨A1, A2, A3, m1, m2, m3, g, d1, d2, d3, rfl, hm1, hrow, hB⟩
    obtain ⟨V, hV⟩ : ∃ V, V = w1.alloc (.cells #[.bool true, .slice A1 m1 d1, .slice A2 m2 d2, .slice A3 m3 d3] 30) := ⟨_, rfl⟩
    have hbV : Below w1.heap.size w1 V := by rw [hV]; exact below_alloc _ _
    have hy : BoxAt V w1.heap.size #[.bool true, .slice A1 m1 d1, .slice A2 m2 d2, .slice A3 m3 d3] := by rw [hV]; exact BoxAt.new _ _ _
    have y0 := (hy 0 _ rfl).1
    have y1 := (hy 1 _ rfl).1
    have hbWV : Below W.heap.size W V := hB.trans (hbV.mono hB.size)
    have x1 := (HH.out.1.below hbWV HH.out.1.lt).1
    have hle : ¬ ((n0 : Int) < (m1 : Int)) := by omega
    have HR := Lib.hid (hrow.below hbV)
    have HV := Lib.hid hV
    have HBV := Lib.hid (HH.out.2.trans (hbWV.mono HH.out.2.size))
    clear hV hbV hy hB HP HW hrow hbWV x0 hz HH
    go_upto_region 6 with fail
    rw [← HV.out]
    go_wp2_with fail
    go_loopw [7] (fun i wr => ∃ (j q : Nat), j ≤ m1 ∧ i = .int .i64 j ∧ wr = V.drewN q) (fun i _ => m1 - (intOf i).toNat)
    case atStart => exact ⟨0, 0, Nat.zero_le _, rfl, rfl⟩
    case round =>
      obtain ⟨j, q, hj, rfl, rfl⟩ := hrel
      by_cases hlt : j < m1
      · have hk : j < (alt m1).length := by rw [alt_len]; exact hlt
        obtain ⟨hA1, z0, z1, z2⟩ := row_ac HR.out (alt_len m1) hk
        rw [hA1] at y1
        rw [alt_get] at z0 z1 z2
        simp only at z0 z1 z2
        have hj0 : (j : Int) < m1 := by omega
        go_wp2_with fail
        go_roundw
        case rel => exact ⟨j + 1, q, by omega, by go_num, rfl⟩
        case measure => simp [intOf]; omega
      · obtain rfl : j = m1 := by omega
        go_wp2_with fail
        refine (alive11_is _).mono ?_; rintro e w' ⟨rfl, hb⟩
        have HB := Lib.hid (HBV.out.trans (((bl_drewN V q).trans (hb)).mono HBV.out.size))
        clear hb
        go_wp2_with fail
        go_ret
        exact ⟨rfl, HB.out⟩
end Go.Proofs.Ytbcbdcglfgimeaa
