/- CellPlays: every call, in every order, as the reference answers. Own work. -/
import Derived.Test.YtdpbpbbikeikfaaPlayH8
import Derived.Deep.DeepCutAuto
import Derived.Deep.RegionHeld3
namespace Go.Proofs.Ytdpbpbbikeikfaa
open Go.ChangeShapes Go.WideShapes Go.ChangeAt Go.RowKit CellM

theorem PR.four {B : Nat} {w0 w : World} {cb rc : Nat} {S : St} {r : Rs} {bx : Nat} {e : Bool} {t n k c v : Int} (H : PR B w0 w cb rc S r bx #[.bool e, .int .i64 t, .int .i64 n, .int .i64 k, .int .i64 c, .int .i64 v]) :
    w.cell? ⟨bx, 1, none⟩ = some (.int .i64 t) ∧ w.cell? ⟨bx, 3, none⟩ = some (.int .i64 k) ∧ w.cell? ⟨bx, 4, none⟩ = some (.int .i64 c) ∧ w.cell? ⟨bx, 5, none⟩ = some (.int .i64 v) :=
  ⟨H.at_ (i := 1) rfl, H.at_ (i := 3) rfl, H.at_ (i := 4) rfl, H.at_ (i := 5) rfl⟩
set_option maxHeartbeats 8000000 in
set_option maxRecDepth 20000 in
theorem plays_is (w : World) (kind top : Int) (A : Option Addr) (c n : Nat) (L : List Ac2) (hn : L.length = n) (hr : RA w A c L) :
    Calls Try.prog 3 #[.int .i64 kind, .int .i64 top, .slice A n c] w fun e w' => e = .returned (.bool true) ∧ Below w.heap.size w w' := by
  subst hn
  have hmax : L.length ≤ maxLen := Nat.le_trans hr.1 hr.2.1
  unfold maxLen at hmax
  have R := Lib.hid hr; clear hr
  by_cases hl : L.length ≤ 80
  · go_enter Try.func3, Try.ntmps3
    go_wp2_with fail
    refine (new_is w kind top).mono ?_; rintro e w1 ⟨rfl, hP, hB⟩
    have M0 := Lib.hid (play_start w w1 kind top hP hB 29); clear hP hB
    go_wp2_with fail
    go_loopw [9] (fun i wr => ∃ k : Nat, k ≤ L.length ∧ i = .int .i64 k ∧ Hid (PlayAt w.heap.size w wr w.heap.size w1.heap.size k)) (fun i _ => L.length - (intOf i).toNat)
    case atStart => exact ⟨0, by omega, rfl, M0⟩
    case round =>
      obtain ⟨k, hk, rfl, M⟩ := hrel
      clear M0
      by_cases hlt : k < L.length
      · obtain ⟨S, r, hM, hSim, hG, hL, hn0, hn1⟩ := M.out
        obtain ⟨ad, rfl, hx0, hx1, hx2, hx3, hx4, hx5⟩ := (R.out.below (hM.base.1.mono (Nat.le_refl _))).2.2 k hlt
        clear M
        obtain ⟨av, hav⟩ : ∃ av, av = L[k] := ⟨_, rfl⟩
        rw [← hav] at hx0 hx1 hx2 hx3 hx4 hx5
        clear hav
        have HB := Lib.hid (hM.box #[.bool av.e, .int .i64 av.t, .int .i64 av.n, .int .i64 av.k, .int .i64 av.c, .int .i64 av.v] 33)
        have hS2 := sim_step hSim av
        have HS := Lib.hid (And.intro hSim (And.intro hG (And.intro hS2 (And.intro (good_step hG av) (len_step r av)))))
        have hk9 : 9 * k ≤ 90000 := by omega
        have hL1 : r.L.length ≤ 100 := by omega
        have hn2 : 0 ≤ r.now ∧ r.now ≤ 1000 := by omega
        have hrc := hM.base.2.2
        clear hM hSim hG hS2
        go_upto_if 39 with fail
        go_cut [] (fun wx => Hid (PR w.heap.size w wx w.heap.size w1.heap.size (stepS S av) (stepR r av) wr.heap.size #[.bool av.e, .int .i64 av.t, .int .i64 av.n, .int .i64 av.k, .int .i64 av.c, .int .i64 av.v]))
        case first =>
          obtain ⟨ae, t, dr, kk, cl, v⟩ := av
          cases ae
          case true =>
            go_wp2_with fail
            refine (HB.out.calls_endP HS.out.2.1 hk9 t dr).mono ?_; rintro e w2 ⟨rfl, h2⟩
            rw [HS.out.1.told, HS.out.1.errE]
            have y1 := h2.at_ (i := 1) rfl
            have y2 := h2.at_ (i := 2) rfl
            have H2 := Lib.hid h2; clear h2
            go_wp2_with fail
            refine (H2.out.calls_endR hL1 hn2 t dr).mono ?_; rintro e w3 ⟨rfl, h3⟩
            have H3 := Lib.hid h3; clear h3
            go_wp2_with fail
            go_meet
            case rel => exact H3
          case false =>
            have HBd := Lib.hid (HB.out.grow (Below.refl _ _).drew)
            go_upto_region 15 with fail
            go_cut [78] (fun s wx => s = .bool false ∧ Hid (PR w.heap.size w wx w.heap.size w1.heap.size (beg S t kk v) (begr r t kk cl v) wr.heap.size #[.bool false, .int .i64 t, .int .i64 dr, .int .i64 kk, .int .i64 cl, .int .i64 v]))
            case first =>
              go_region_held3 (fun wx => wx.cell? ⟨wr.heap.size, 1, none⟩ = some (.int .i64 t) ∧ wx.cell? ⟨wr.heap.size, 3, none⟩ = some (.int .i64 kk) ∧ wx.cell? ⟨wr.heap.size, 4, none⟩ = some (.int .i64 cl) ∧ wx.cell? ⟨wr.heap.size, 5, none⟩ = some (.int .i64 v))
                (first | exact H3.out.four | exact H2P.out.four | exact H2R.out.four | exact HBd.out.four)
                (first
                | (go_at_call 10; with_reducible refine (H2R.out.calls_begP HS.out.2.1 hk9 t kk cl v).mono ?_; rintro e w3 ⟨he, h3⟩; rw [HS.out.1.errB] at he; subst he; have H3 := Lib.hid h3; clear h3)
                | (go_at_call 10; with_reducible refine (HBd.out.calls_begP HS.out.2.1 hk9 t kk cl v).mono ?_; rintro e w2 ⟨he, h2⟩; rw [HS.out.1.errB] at he; subst he; have H2P := Lib.hid h2; clear h2)
                | (go_at_call 11; with_reducible refine (H2P.out.calls_begR hL1 hn2 t kk cl v).mono ?_; rintro e w3 ⟨he, h3⟩; subst he; have H3 := Lib.hid h3; clear h3)
                | (go_at_call 11; with_reducible refine (HBd.out.calls_begR hL1 hn2 t kk cl v).mono ?_; rintro e w2 ⟨he, h2⟩; subst he; have H2R := Lib.hid h2; clear h2))
              all_goals
                go_wp2_with fail
                go_meet
                exact ⟨rfl, H3⟩
            case rest =>
              obtain ⟨rfl, H3⟩ := hcut
              go_wp2_with fail
              go_meet
              case rel => exact H3
        case rest =>
          have HC := Lib.hid (And.intro HS.out.2.2 hcut.out)
          have hval := HS.out.2.2.1.value
          have hbz := HS.out.2.2.1.busy 8
          obtain ⟨S', hS'⟩ : ∃ S', stepS S av = S' := ⟨_, rfl⟩
          obtain ⟨r', hr'⟩ : ∃ r', stepR r av = r' := ⟨_, rfl⟩
          rw [hS', hr'] at HC hval hbz
          clear hS' hr' hcut HB HS hx0 hx1 hx2 hx3 hx4 hx5
          go_upto_region 17 with fail
          go_cut [92] (fun s wx => s = .bool false ∧ Hid (PlayAt w.heap.size w wx w.heap.size w1.heap.size (k + 1)))
          case first =>
            have HPd := Lib.hid (HC.out.2.grow (Below.refl _ _).drew)
            have HVB := Lib.hid (And.intro hval hbz)
            have HE : Hid (∀ wz, PR w.heap.size w wz w.heap.size w1.heap.size S' r' wr.heap.size #[.bool av.e, .int .i64 av.t, .int .i64 av.n, .int .i64 av.k, .int .i64 av.c, .int .i64 av.v] → PlayAt w.heap.size w wz w.heap.size w1.heap.size (k + 1)) := Lib.hid (fun wz hz => by
              obtain ⟨q1, q2, q3, q4, q5⟩ := HC.out.1
              exact ⟨S', r', hz.unbox, q1, q2.mono (by omega), by omega, by omega, by omega⟩)
            clear hval hbz
            go_region_held3 (fun wx => wx.cell? ⟨w1.heap.size, 2, none⟩ = some (.int .i64 r'.value))
              (first | exact HP2.out.val | exact HPd.out.val)
              (first
              | (go_at_call 12; with_reducible refine HPd.out.calls_value.mono ?_; rintro e wv ⟨he, rfl⟩; rw [HVB.out.1] at he; subst he)
              | (go_at_call 13; with_reducible refine HPd.out.calls_busyP.mono ?_; rintro e w2 ⟨he, h2⟩; rw [HVB.out.2] at he; subst he; have HP2 := Lib.hid h2; clear h2)
              | (go_at_call 14; with_reducible refine HP2.out.calls_busyR.mono ?_; rintro e wv ⟨rfl, rfl⟩)
              | (go_at_call 14; with_reducible refine HPd.out.calls_busyR.mono ?_; rintro e wv ⟨rfl, rfl⟩))
            all_goals
              go_wp2_with fail
              go_meet
              exact ⟨rfl, Lib.hid (HE.out _ HP2.out)⟩
          case rest =>
            obtain ⟨rfl, HN⟩ := hcut
            go_wp2_with fail
            go_roundw
            case rel => exact ⟨k + 1, by omega, by go_num, HN⟩
            case measure => simp [intOf]; omega
      · obtain rfl : k = L.length := by omega
        obtain ⟨S, r, hM, _⟩ := M.out
        have MB := Lib.hid hM.base
        clear hM
        go_wp2_with fail
        refine (alive_is _).mono ?_; rintro e w' ⟨rfl, hB⟩
        have HB := Lib.hid hB; clear hB
        go_wp2_with fail
        go_ret
        exact ⟨rfl, MB.out.1.trans (HB.out.mono MB.out.2.1)⟩
  · go_enter Try.func3, Try.ntmps3
    go_wp2_with fail
    refine (alive_is _).mono ?_; rintro e w' ⟨rfl, hB⟩
    have HB := Lib.hid hB; clear hB
    go_wp2_with fail
    go_ret
    exact ⟨rfl, HB.out⟩
end Go.Proofs.Ytdpbpbbikeikfaa
