/- The reference's bank: what turns it; End. Own work. -/
import Derived.Test.YtdfkmkflcnfchaaRPl
import Derived.Deep.RegionHeld3
namespace Go.Proofs.Ytdfkmkflcnfchaa
open Go.ChangeShapes Go.WideShapes Go.ChangeAt Go.RowKit CellM

theorem RAt.tight' {w : World} {rc : Nat} {r : Rs} {A : Option Addr} {h c : Nat} {G : Nat → Prop} (H : RAt w rc r A h c G) : RAt w rc r A h c (fun b => G b ∧ b < w.heap.size) :=
  ⟨H.kind, H.top, H.value, H.now, H.l, H.row, ⟨H.rG, H.lt⟩, fun hc => ⟨⟨(H.hG hc).1, by
    obtain ⟨x, hx⟩ := H.row.room 0 (by omega)
    exact hx.lt⟩, (H.hG hc).2⟩⟩
/-- A call's whole effect on the reference's bank. -/
structure RBNow (w w' : World) (rb : Nat) (SV : Value) (no : List Int) (R : Int → Rs) (G : Nat → Prop) : Prop where
  at_ : RBAt w' rb SV no R (More w G)
  step : Step G w w'
section
variable {w w' : World} {rb : Nat} {SV : Value} {no : List Int} {R : Int → Rs} {G : Nat → Prop} {NA CA : Option Addr} {nh nc ch cc : Nat} {rp : Int → Nat} {Gc : Int → Nat → Prop}
theorem RBAtD.at0 (H : RBAtD w rb SV no R G NA CA nh nc ch cc rp Gc) : RBAt w rb SV no R G := ⟨NA, CA, nh, nc, ch, cc, rp, Gc, H⟩
/-- A call of a cell. -/
theorem RBAtD.cell (H : RBAtD w rb SV no R G NA CA nh nc ch cc rp Gc) {n : Int} (hn : n ∈ no) {r' : Rs} (hN : RNow w w' (rp n) r' (Gc n)) :
    RBAtD w' rb SV no (updZ R n r') (More w G) NA CA nh nc ch cc rp (updZ Gc n (fun b => More w (Gc n) b ∧ b < w'.heap.size)) := by
  have hk := hN.step.kept
  have hcG := H.cG n hn
  have hrb : rb < w.heap.size := H.l.lt
  have hT : ∀ b, More w (Gc n) b → More w G b ∧ b ≠ rb ∧ (nc ≠ 0 → b ≠ nh) ∧ (cc ≠ 0 → b ≠ ch) := fun b hb => by
    rcases hb with hb | hb
    · exact ⟨.inl (hcG b hb).1, (hcG b hb).2⟩
    · refine ⟨.inr hb, by omega, fun h => ?_, fun h => ?_⟩
      · have := H.rn.lt (by decide) h; omega
      · have := H.rk.lt (by decide) h; omega
  refine ⟨hk.has _ _ H.l (fun h => (hcG _ h).2.1 rfl), hk.has _ _ H.n (fun h => (hcG _ h).2.1 rfl), hk.has _ _ H.k (fun h => (hcG _ h).2.1 rfl),
    H.rn.keep hk (fun j hj h => (hcG _ h).2.2.1 (fun e => by subst e; omega) rfl), H.rk.keep hk (fun j hj h => (hcG _ h).2.2.2 (fun e => by subst e; omega) rfl),
    fun i hi => ?_, .inl H.rG, fun h => ⟨.inl (H.nG h).1, (H.nG h).2⟩, fun h => ⟨.inl (H.kG h).1, (H.kG h).2⟩, H.nk, fun i hi b hb => ?_, fun i hi j hj hij b hb hb' => ?_, fun i hi b hb => ?_⟩
  · by_cases e : i = n
    · subst e
      obtain ⟨A, h, c, hr⟩ := hN.at_
      exact ⟨A, h, c, by simp only [updZ_same]; exact hr.tight'⟩
    · obtain ⟨A, h, c, hr⟩ := H.c i hi
      exact ⟨A, h, c, by simp only [updZ_other _ _ _ e]; exact hr.keep hk (fun p hp hg => H.dj i hi n hn e _ hg hp)⟩
  · by_cases e : i = n
    · subst e; rw [updZ_same] at hb; exact hT b hb.1
    · rw [updZ_other _ _ _ e] at hb; exact ⟨.inl (H.cG i hi b hb).1, (H.cG i hi b hb).2⟩
  · by_cases e : i = n
    · subst e
      rw [updZ_same] at hb
      rw [updZ_other _ _ _ (fun h => hij h.symm)] at hb'
      rcases hb.1 with h | h
      · exact H.dj i hi j hj hij b h hb'
      · have := H.ct j hj b hb'; omega
    · rw [updZ_other _ _ _ e] at hb
      by_cases e' : j = n
      · subst e'
        rw [updZ_same] at hb'
        rcases hb'.1 with h | h
        · exact H.dj i hi j hj hij b hb h
        · have := H.ct i hi b hb; omega
      · rw [updZ_other _ _ _ e'] at hb'
        exact H.dj i hi j hj hij b hb hb'
  · by_cases e : i = n
    · subst e; rw [updZ_same] at hb; exact hb.2
    · rw [updZ_other _ _ _ e] at hb; exact Nat.lt_of_lt_of_le (H.ct i hi b hb) hk.size
end
set_option maxRecDepth 20000 in
set_option maxHeartbeats 4000000 in
theorem endRB_is (w : World) (rb : Nat) (SV : Value) (X : Bk) (R : Int → Rs) (i : Nat) (G : Nat → Prop) (t draw : Int) (H : RBAt w rb SV X.no R G) (hS : SimB X R i) (hi : i ≤ 90) :
    Calls Try.prog 8 #[.pointer (some ⟨rb, 0, none⟩), .int .i64 t, .int .i64 draw] w fun e w' => e = .returned (.tuple #[.int .i64 (finVB X t draw), .int .i64 (errEB X t)]) ∧ RBNow w w' rb SV X.no (rfin X R t) G := by
  obtain ⟨NA, CA, nh, nc, ch, cc, rp, Gc, H⟩ := H
  have HB := Lib.hid (busyRB_is H t)
  rw [hS.busy t] at HB
  cases hb : busyB X t with
  | none =>
    rw [hb] at HB
    simp only at HB
    have HE : Hid (errEB X t = 7 ∧ finVB X t draw = 0 ∧ rfin X R t = R) := Lib.hid ⟨by unfold errEB; rw [hb], by unfold finVB; rw [hb], by unfold rfin; rw [hb]⟩
    have H' := Lib.hid H
    clear H hS hb
    go_enter Try.func8, Try.ntmps8
    go_wp2_with fail
    refine HB.out.mono ?_; rintro e w' ⟨rfl, rfl⟩
    go_wp2_with fail
    go_ret2
    exact ⟨ret_2 HE.out.2.1.symm HE.out.1.symm, by rw [HE.out.2.2]; exact ⟨H'.out.at0.mono (fun _ h => .inl h), Step.refl _ _⟩⟩
  | some n =>
    rw [hb] at HB
    simp only at HB
    have hn := hS.used hb
    have hin : 0 ≤ n ∧ n < sumS X.L := by have := hS.good.in_ n hn; simpa [inB] using this
    obtain ⟨p, hp, hpl, hnp⟩ := place_in hn
    obtain ⟨_, _, hCA, x1⟩ := H.at_ hp
    subst hCA
    rw [hnp] at x1
    have c2 := H.k.1
    have hmax := H.max
    have hp2 : (p : Int) < (X.no.length : Int) := by omega
    have he := hS.good.errE hb
    have htold := (hS.sim n).told t draw
    have herr := (hS.sim n).errE t
    rw [he] at herr
    obtain ⟨A, h, c, hr⟩ := H.c n hn
    obtain ⟨l1, l2, l3⟩ := hS.len n
    have HC := Lib.hid (fun (wx : World) (hb : Below w.heap.size w wx) => endR_is wx (rp n) (R n) A h c (Gc n) t draw (hr.below hb) (by omega) (by omega))
    rw [← htold, ← herr] at HC
    have HP := Lib.hid (fun (wx : World) (hb : Below w.heap.size w wx) => placeR_is (H.below hb) n)
    rw [hpl] at HP
    have HE : Hid (errEB X t = 0 ∧ finVB X t draw = finV (X.c n) t draw ∧ rfin X R t = updZ R n (endr (R n) t)) := Lib.hid ⟨by unfold errEB; rw [hb], by unfold finVB; rw [hb], by unfold rfin; rw [hb]⟩
    have HS0 := Lib.hid (And.intro c2 x1)
    have HX := Lib.hid (fun (wx w' : World) (hb : Below w.heap.size w wx) (hN : RNow wx w' (rp n) (endr (R n) t) (Gc n)) => And.intro (H.below hb) ((H.below hb).cell hn hN))
    have HZ := Lib.hid (fun (wx w' : World) (hb : Below w.heap.size w wx) (hN : RNow wx w' (rp n) (endr (R n) t) (Gc n)) => (show w'.cell? ⟨rb, 2, none⟩ = some (.slice (some ⟨ch, 0, none⟩) X.no.length cc) ∧ w'.cell? ⟨ch, p, none⟩ = some (.pointer (some ⟨rp n, 0, none⟩)) from by
      have h2 := (H.below hb).cell hn hN
      have h3 := (h2.at_ hp).2.2.2
      rw [hnp] at h3
      exact ⟨h2.k.1, h3⟩))
    have HG := Lib.hid (fun (b : Nat) (hb : Gc n b) => (H.cG n hn b hb).1)
    have dn : decide (n < 0) = false := by simp; omega
    clear H hS hb hr htold herr he hpl hnp hn
    go_enter Try.func8, Try.ntmps8
    go_wp2_with fail
    refine HB.out.mono ?_; rintro e w1 ⟨rfl, rfl⟩
    go_wp2_with fail
    go_region_held3 (fun wx => wx.cell? ⟨rb, 2, none⟩ = some (.slice (some ⟨ch, 0, none⟩) X.no.length cc) ∧ wx.cell? ⟨ch, p, none⟩ = some (.pointer (some ⟨rp n, 0, none⟩)))
      (first | exact HS0.out | exact HZ.out _ _ (Below.refl _ _).drew hN)
      (first
      | (go_at_call 22; with_reducible refine (HP.out _ (Below.refl _ _).drew).mono ?_; rintro e w' ⟨rfl, rfl⟩)
      | (go_at_call 23; with_reducible refine (HC.out _ (Below.refl _ _).drew).mono ?_; rintro e w' ⟨rfl, hN⟩))
    obtain ⟨_, h4⟩ := HX.out _ _ (Below.refl _ _).drew hN
    have hst : Step G w w' := (Step.of_below (Below.refl _ _).drew).trans' hN.step (fun b hb => .inl (HG.out b hb))
    have F := Lib.hid (And.intro h4.at0 hst)
    clear h4 hst hN
    go_wp2_with fail
    go_ret2
    refine ⟨ret_2 HE.out.2.1.symm HE.out.1.symm, ?_⟩
    rw [HE.out.2.2]
    exact ⟨F.out.1.mono (fun b hb => hb), F.out.2⟩
end Go.Proofs.Ytdfkmkflcnfchaa
