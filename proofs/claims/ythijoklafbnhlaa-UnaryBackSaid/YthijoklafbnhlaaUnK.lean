/- UnaryBack: the whole. Own work. -/
import Derived.Test.YthijoklafbnhlaaUnB
import Derived.Test.YthijoklafbnhlaaUnA2
import Derived.Test.YthijoklafbnhlaaUnR
namespace Go.Proofs.Ythijoklafbnhlaa
open Go.ChangeShapes Go.WideShapes Go.ChangeAt Go.RowKit CellM TapeM

/-- Where the loop stands: j values are written, lo is what the locals are, c what the cells are. -/
structure Back (w wr : World) (tp : Int) (n0 c0 c1 j b3 : Nat) (A0 A1 : Option Addr) (lo c : List Int) : Prop where
  base : Below w.heap.size w wr
  box : Has wr ⟨w.heap.size, 0, none⟩ (.slice A0 n0 c0)
  reg : BoxAt wr (w.heap.size + 1) #[.int .i64 3, .int .i64 0, .int .i64 0, .int .i64 0, .int .i64 0, .int .i64 0, .int .i64 tp]
  cells : CellsAt wr (w.heap.size + 2) c
  ind : Has wr ⟨b3, 0, none⟩ (.int .i64 j)
  far : w.heap.size + 3 ≤ b3
  ri : RI wr A1 c1 lo
  mir : Mirror lo c
theorem Back.grow {w wr wx : World} {tp : Int} {n0 c0 c1 j b3 : Nat} {A0 A1 : Option Addr} {lo c : List Int} (H : Back w wr tp n0 c0 c1 j b3 A0 A1 lo c) (hb : Below wr.heap.size wr wx) : Back w wx tp n0 c0 c1 j b3 A0 A1 lo c :=
  ⟨H.base.trans (hb.mono H.base.size), H.box.below hb H.box.lt, H.reg.grow hb, H.cells.grow hb, H.ind.below hb H.ind.lt, H.far, H.ri.below hb, H.mir⟩
/-- The index, in its box. -/
def indOf (v : Value) (w : World) : Nat := match v with
  | .pointer (some p) => match w.cell? p with
    | some x => (intOf x).toNat
    | none => 0
  | _ => 0
theorem indOf_is {w : World} {p : Addr} {j : Nat} (h : Has w p (.int .i64 j)) : indOf (.pointer (some p)) w = j := by
  unfold indOf
  simp only [h.1]
  rfl
theorem putA_take (aa : List Ac) (c : List Int) {q : Nat} (h : q < aa.length) : putA (aa.take (q + 1)) c = (putA (aa.take q) c).set aa[q].c.toNat aa[q].v := by
  rw [← List.take_append_getElem h, putA_app]
  rfl
set_option maxHeartbeats 16000000 in
set_option maxRecDepth 20000 in
theorem unaryBack_is (w : World) (t : Int) (ht : 0 ≤ t ∧ t ≤ 255) (A0 : Option Addr) (c0 n0 : Nat) (L : List Int) (hn0 : L.length = n0) (hA : RI w A0 c0 L) :
    Calls Try.prog 4 #[.int .u8 t, .slice A0 n0 c0] w fun e w' => e = .returned (.bool true) ∧ Below w.heap.size w w' := by
  have hm0 : n0 ≤ maxLen := by have := hA.max; omega
  unfold maxLen at hm0
  have hB0 := below_alloc w (.cells #[.slice A0 n0 c0] 24)
  have HB0 := Lib.hid hB0
  obtain ⟨ht0, ht1⟩ := ht
  by_cases hbig : 30 < n0
  · clear hA hn0 hB0
    go_enter Try.func4, Try.ntmps4
    go_wp2_with fail
    refine (alive12_is _).mono ?_; rintro e w' ⟨rfl, hb⟩
    have HB := Lib.hid (HB0.out.trans (hb.mono HB0.out.size))
    clear hb
    go_wp2_with fail
    go_ret
    exact ⟨rfl, HB.out⟩
  · obtain ⟨W, hW⟩ : ∃ W, W = (((w.alloc (.cells #[.slice A0 n0 c0] 24)).alloc (.cells #[.int .i64 3, .int .i64 0, .int .i64 0, .int .i64 0, .int .i64 0, .int .i64 0, .int .i64 t] 23)).alloc (.cells (zeroCells 256) 3)).alloc (.cells #[.int .i64 0] 3) := ⟨_, rfl⟩
    have hbW : Below w.heap.size w W := by rw [hW]; exact (((below_alloc _ _).alloc (by simp) _).alloc (by simp; omega) _).alloc (by simp; omega) _
    have hbx : Has W ⟨w.heap.size, 0, none⟩ (.slice A0 n0 c0) := by rw [hW]; exact (((has_new w _ _ 0 _ rfl).alloc _).alloc _).alloc _
    have hbr : BoxAt W (w.heap.size + 1) #[.int .i64 3, .int .i64 0, .int .i64 0, .int .i64 0, .int .i64 0, .int .i64 0, .int .i64 t] := by
      have := BoxAt.new (w.alloc (.cells #[.slice A0 n0 c0] 24)) #[.int .i64 3, .int .i64 0, .int .i64 0, .int .i64 0, .int .i64 0, .int .i64 0, .int .i64 t] 23
      rw [size_alloc'] at this
      rw [hW]; exact (this.grow (below_alloc _ _)).grow (below_alloc _ _)
    have hcs : CellsAt W (w.heap.size + 2) (List.replicate 256 0) := by
      have := CellsAt.new ((w.alloc (.cells #[.slice A0 n0 c0] 24)).alloc (.cells #[.int .i64 3, .int .i64 0, .int .i64 0, .int .i64 0, .int .i64 0, .int .i64 0, .int .i64 t] 23))
      rw [size_alloc', size_alloc'] at this
      rw [hW]; exact this.grow (below_alloc _ _)
    have hib : Has W ⟨w.heap.size + 3, 0, none⟩ (.int .i64 (0 : Nat)) := by
      have := has_new (((w.alloc (.cells #[.slice A0 n0 c0] 24)).alloc (.cells #[.int .i64 3, .int .i64 0, .int .i64 0, .int .i64 0, .int .i64 0, .int .i64 0, .int .i64 t] 23)).alloc (.cells (zeroCells 256) 3)) #[.int .i64 0] 3 0 _ rfl
      rw [size_alloc', size_alloc', size_alloc'] at this
      rw [hW]; exact this
    have HS := Lib.hid (show Back w W t n0 c0 0 0 (w.heap.size + 3) A0 none [] (List.replicate 256 0) from ⟨hbW, hbx, hbr, hcs, hib, Nat.le_refl _, RI.nil W, mirror_zero⟩)
    have HA := Lib.hid hA
    have HW := Lib.hid hW
    have hz : ∀ w : World, (Instr.makeSlice 24 (.int .i64 256) (.int .i64 256)).run Try.prog w = .ok (.slice (some ⟨w.heap.size, 0, none⟩) 256 256) (w.alloc (.cells (zeroCells 256) 3)) := zeros_run 256 (by decide)
    have hmf : ∀ (fn : Fn) (first cap : Array Value) (w : World), (Instr.makeFunc fn first cap).run Try.prog w = .ok (.func fn first cap) w := fun _ _ _ _ => rfl
    have x0 := hbx.1
    clear hbW hbx hbr hcs hib hA hW hB0 HB0
    go_enter Try.func4, Try.ntmps4
    go_wp2_with fail
    rw [← HW.out]
    clear x0
    go_loopw [7, 8] (fun lc ip wr => ∃ (j b3 : Nat) (A1 : Option Addr) (c1 : Nat) (lo c : List Int), j ≤ n0 ∧ lc = .slice A1 lo.length c1 ∧ ip = .pointer (some ⟨b3, 0, none⟩) ∧ Hid (Back w wr t n0 c0 c1 j b3 A0 A1 lo c)) (fun _ ip wr => n0 - indOf ip wr)
    case atStart => exact ⟨0, w.heap.size + 3, none, 0, [], List.replicate 256 0, Nat.zero_le _, rfl, rfl, HS⟩
    case round =>
      obtain ⟨j, b3, A1, c1, lo, c, hj, rfl, rfl, HR⟩ := hrel
      have x1 := HR.out.box.1
      have x3 := HR.out.ind.1
      by_cases hlt : j < n0
      · have hlL : j < L.length := by omega
        have hLr := HA.out.below HR.out.base
        obtain ⟨ad, rfl, xc⟩ := hLr.at_ hlL
        obtain ⟨z, hz⟩ : ∃ z, z = L[j] := ⟨_, rfl⟩
        rw [← hz] at xc
        have hcz := cap_le t z ht0
        obtain ⟨x, hx⟩ : ∃ x : Nat, cap t z = (x : Int) := ⟨(cap t z).toNat, by omega⟩
        rw [hx] at hcz
        have HX := Lib.hid (show cap (cap 1099511627776 t) z = (x : Int) from by rw [cap_in (m := 1099511627776) (t := t) (by omega) (by omega)]; exact hx)
        obtain ⟨W2, hW2⟩ : ∃ W2, W2 = wr.alloc (.cells (zeroCells 256) 3) := ⟨_, rfl⟩
        have hb2 : Below wr.heap.size wr W2 := by rw [hW2]; exact below_alloc _ _
        have H2 := HR.out.grow hb2
        have hri : RI W2 (some ⟨wr.heap.size, 0, none⟩) 256 (List.replicate 256 0) := by rw [hW2]; exact zeros_ri 256 (by decide) wr
        have HP := Lib.hid (playW_is (w := W2) w.heap.size (w.heap.size + 1) b3 j hn0 hlL t ht0 ht1 x (by rw [← hz]; exact hx) H2.mir (hLr.below hb2) H2.ri hri H2.box H2.ind H2.reg)
        have HH2 := Lib.hid H2
        have HW2 := Lib.hid hW2
        have HI := Lib.hid (indOf_is HR.out.ind)
        clear hri H2 hb2 hW2 hx hz hLr
        go_wp2_with fail
        refine (clamp1_is _ _ _ HX.out _).mono ?_; rintro e w' ⟨rfl, rfl⟩
        go_wp2_with fail
        rw [← HW2.out]
        refine HP.out.mono ?_
        rintro e w3 ⟨aa, lo', P1, P2, P3, m2, d1, d2, d3, rfl, h1, h2, h3, h4, h5, hB⟩
        obtain ⟨V, hV⟩ : ∃ V, V = w3.alloc (.cells #[.bool true, .slice P1 aa.length d1, .slice P2 m2 d2, .slice P3 lo'.length d3] 30) := ⟨_, rfl⟩
        have hbV : Below w3.heap.size w3 V := by rw [hV]; exact below_alloc _ _
        have hy : BoxAt V w3.heap.size #[.bool true, .slice P1 aa.length d1, .slice P2 m2 d2, .slice P3 lo'.length d3] := by rw [hV]; exact BoxAt.new _ _ _
        have hbWV : Below W2.heap.size W2 V := hB.trans (hbV.mono hB.size)
        have y0 := (hy 0 _ rfl).1
        have y1 := (hy 1 _ rfl).1
        have y3 := (hy 3 _ rfl).1
        have hle : ¬ ((x : Int) + 1 < (aa.length : Int)) := by omega
        have hsz : w.heap.size + 3 < W2.heap.size := by have := HH2.out.ind.lt; have := HH2.out.far; simp only at *; omega
        have hs3 := hB.size
        have HBk := Lib.hid (HH2.out.grow hbWV)
        have HV := Lib.hid hV
        have HL := Lib.hid (And.intro h2 (And.intro h3 (And.intro h4 h5)))
        have HY := Lib.hid (And.intro hy hbV)
        clear hV hbV hy hB hbWV h1 h2 h3 h4 h5 HP HW2 x1 x3 xc
        go_upto_region 11 with fail
        rw [← HV.out]
        go_wp2_with fail
        go_loopw [12] (fun i wr => ∃ q : Nat, q ≤ aa.length ∧ i = .int .i64 q ∧ Hid (Kept (fun p => p.block = w.heap.size + 2) V wr ∧ Below w.heap.size w wr ∧ CellsAt wr (w.heap.size + 2) (putA (aa.take q) c))) (fun i _ => aa.length - (intOf i).toNat)
        case atStart => exact ⟨0, Nat.zero_le _, rfl, Lib.hid ⟨Kept.refl _ _, HBk.out.base, HBk.out.cells⟩⟩
        case round =>
          obtain ⟨q, hq, rfl, HQ⟩ := hrel
          have hbox : BoxAt wr w3.heap.size #[.bool true, .slice P1 aa.length d1, .slice P2 m2 d2, .slice P3 lo'.length d3] := fun i u hu => HQ.out.1.has _ _ (HY.out.1 i u hu) (by simp only; omega)
          have y0 := (hbox 0 _ rfl).1
          have y1 := (hbox 1 _ rfl).1
          have y3 := (hbox 3 _ rfl).1
          have hkB : Kept (fun p => p.block < W2.heap.size) w3 wr := (Kept.below HY.out.2).trans (HQ.out.1.mono (fun p h => by rw [h]; omega))
          obtain ⟨⟨g, hrow⟩, hri3⟩ := HL.out.2.2.2 wr hkB
          by_cases hlt2 : q < aa.length
          · obtain ⟨rfl, z0, z1, z2⟩ := row_ac hrow rfl hlt2
            obtain ⟨hk1, i, hix, hci⟩ := HL.out.1 aa[q] (List.getElem_mem hlt2)
            obtain ⟨vv, hvv⟩ : ∃ vv, aa[q].v = vv := ⟨_, rfl⟩
            have HT := Lib.hid (show putA (aa.take (q + 1)) c = (putA (aa.take q) c).set i vv from by rw [putA_take aa c hlt2, hci, hvv]; rfl)
            rw [hk1] at z0
            rw [hci] at z1
            rw [hvv] at z2
            have hi : i < 256 := by omega
            have hit : ¬ (t < (i : Int)) := by omega
            have hq0 : (q : Int) < (aa.length : Int) := by omega
            have hcl := HQ.out.2.2.at_ i hi
            have xo := hcl.1
            have fo := hcl.2
            have hlo := hcl.lt
            simp only at hlo
            have hset := HQ.out.2.1.setCell (p := ⟨w.heap.size + 2, i, none⟩) (Nat.le_add_right _ 2) (.int .i64 vv)
            have HG := Lib.hid (And.intro ((HQ.out.1.setCell (p := ⟨w.heap.size + 2, i, none⟩) rfl (.int .i64 vv)).alloc (.cells #[.int .i64 2, .int .i64 i, .int .i64 vv] 53))
              (And.intro (hset.alloc hset.size (.cells #[.int .i64 2, .int .i64 i, .int .i64 vv] 53))
                (show CellsAt ((wr.setCell ⟨w.heap.size + 2, i, none⟩ (.int .i64 vv)).alloc (.cells #[.int .i64 2, .int .i64 i, .int .i64 vv] 53)) (w.heap.size + 2) (putA (aa.take (q + 1)) c) from by
                  rw [HT.out]; exact (HQ.out.2.2.set hi vv).grow (below_alloc _ _))))
            clear hrow hri3 hk1 hci hvv hkB hcl hset
            go_wp2_with fail
            go_roundw
            case rel => exact ⟨q + 1, by omega, by go_num, HG⟩
            case measure => simp [intOf]; omega
          · obtain rfl : q = aa.length := by omega
            have hC := HQ.out.2.2
            rw [List.take_length, HL.out.2.1] at hC
            have hb : Has wr ⟨w.heap.size, 0, none⟩ (.slice (some ad) n0 c0) := HQ.out.1.has _ _ HBk.out.box (by simp only; omega)
            have hr : BoxAt wr (w.heap.size + 1) #[.int .i64 3, .int .i64 0, .int .i64 0, .int .i64 0, .int .i64 0, .int .i64 0, .int .i64 t] := fun i u hu => HQ.out.1.has _ _ (HBk.out.reg i u hu) (by simp only; omega)
            have hi : Has wr ⟨b3, 0, none⟩ (.int .i64 j) := HQ.out.1.has _ _ HBk.out.ind (by have := HBk.out.far; simp only; omega)
            have HB4 := Lib.hid (show Back w wr t n0 c0 d3 j b3 (some ad) P3 lo' (wrote x c) from ⟨HQ.out.2.1, hb, hr, hC, hi, HBk.out.far, hri3, HL.out.2.2.1⟩)
            have HP := Lib.hid (playR_is (w := wr) HBk.out.mir.1 (w.heap.size + 1) t ht1 x hcz.2 hC.ri hr)
            have hle2 : ¬ ((aa.length : Int) < (aa.length : Int)) := by omega
            clear hrow hkB hC hb hr hi hri3
            go_wp2_with fail
            refine HP.out.mono ?_
            rintro e w5 ⟨Q1, Q2, Q3, k1, k2, k3, f1, f2, f3, rfl, hk1, hB5⟩
            obtain ⟨U, hU⟩ : ∃ U, U = w5.alloc (.cells #[.bool true, .slice Q1 k1 f1, .slice Q2 k2 f2, .slice Q3 k3 f3] 30) := ⟨_, rfl⟩
            have hbU : Below w5.heap.size w5 U := by rw [hU]; exact below_alloc _ _
            have hu : BoxAt U w5.heap.size #[.bool true, .slice Q1 k1 f1, .slice Q2 k2 f2, .slice Q3 k3 f3] := by rw [hU]; exact BoxAt.new _ _ _
            have hbrU : Below wr.heap.size wr U := hB5.trans (hbU.mono hB5.size)
            have H5 := HB4.out.grow hbrU
            have u0 := (hu 0 _ rfl).1
            have u1 := (hu 1 _ rfl).1
            have x3 := H5.ind.1
            have hle3 : ¬ (t + 1 < (k1 : Int)) := by omega
            have hxx : ((x : Int) != (x : Int)) = false := by simp
            have HU := Lib.hid hU
            have H55 := Lib.hid H5
            have hsU : w.heap.size + 3 ≤ U.heap.size := by have := H5.ind.lt; have := H5.far; simp only at *; omega
            have HGx := H5.grow (below_alloc U (.cells #[.int .i64 ((j : Int) + 1)] 3))
            have hnew : Has (U.alloc (.cells #[.int .i64 ((j : Int) + 1)] 3)) ⟨U.heap.size, 0, none⟩ (.int .i64 ((j + 1 : Nat) : Int)) := by
              rw [show ((j + 1 : Nat) : Int) = (j : Int) + 1 by omega]; exact has_new U _ _ 0 _ rfl
            have HG := Lib.hid (show Back w (U.alloc (.cells #[.int .i64 ((j : Int) + 1)] 3)) t n0 c0 d3 (j + 1) U.heap.size (some ad) P3 lo' (wrote x c) from ⟨HGx.base, HGx.box, HGx.reg, HGx.cells, hnew, hsU, HGx.ri, HGx.mir⟩)
            clear hU hbU hu hbrU H5 hB5 HP y0 y1 y3 HGx hnew
            go_upto_region 22 with fail
            rw [← HU.out]
            go_wp2_with fail
            go_roundw
            case rel => exact ⟨j + 1, U.heap.size, P3, d3, lo', wrote x c, by omega, rfl, rfl, HG⟩
            case measure => rw [HI.out, indOf_is HG.out.ind]; omega
      · have HB6 := Lib.hid HR.out.base
        have hle : ¬ ((j : Int) < (n0 : Int)) := by omega
        clear HR
        go_wp2_with fail
        refine (alive12_is _).mono ?_; rintro e w' ⟨rfl, hb⟩
        have HB := Lib.hid (HB6.out.trans (hb.mono HB6.out.size))
        clear hb
        go_wp2_with fail
        go_ret
        exact ⟨rfl, HB.out⟩
end Go.Proofs.Ythijoklafbnhlaa
