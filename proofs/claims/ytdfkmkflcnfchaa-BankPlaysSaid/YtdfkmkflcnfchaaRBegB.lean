/- The reference's Begin. Own work. -/
import Derived.Test.YtdfkmkflcnfchaaRBegA
import Derived.Deep.RegionHeld3
import Derived.Deep.RegionLaw
namespace Go.Proofs.Ytdfkmkflcnfchaa
open Go.ChangeShapes Go.WideShapes Go.ChangeAt Go.RowKit CellM

theorem RMid.mono {w : World} {rb : Nat} {SV : Value} {no : List Int} {cl : Int} {R : Int → Rs} {G G' : Nat → Prop} {NA CA : Option Addr} {nh nc ch cc : Nat} {rp : Int → Nat} {Gc : Int → Nat → Prop} (H : RMid w rb SV no cl R G NA CA nh nc ch cc rp Gc) (hG : ∀ b, G b → G' b) : RMid w rb SV no cl R G' NA CA nh nc ch cc rp Gc :=
  ⟨H.l, H.n, H.k, H.rn, H.rk, H.c, hG _ H.rG, fun h => ⟨hG _ (H.nG h).1, (H.nG h).2⟩, fun h => ⟨hG _ (H.kG h).1, (H.kG h).2⟩, H.nk, fun n hn b hb => ⟨hG _ (H.cG n hn b hb).1, (H.cG n hn b hb).2⟩, H.dj, H.ct⟩
/-- The bank between its two appends, the boxes beside it. -/
structure MidX (w : World) (rb : Nat) (SV : Value) (no : List Int) (cl : Int) (R : Int → Rs) (G : Nat → Prop) (NA CA : Option Addr) (nh nc ch cc : Nat) (rp : Int → Nat) (Gc : Int → Nat → Prop) (k v : Int) (sg m : Nat) (kd tp : Int) (wx : World) : Prop where
  mid : RMid wx rb SV no cl R (fun b => (G b ∧ b < w.heap.size) ∨ m ≤ b) NA CA nh nc ch cc rp Gc
  box : BX w.heap.size k cl v wx
  s1 : Has wx ⟨sg, 1, none⟩ (.int .i64 kd)
  s2 : Has wx ⟨sg, 2, none⟩ (.int .i64 tp)
  step : Step (fun b => G b ∧ b < w.heap.size) w wx
  sm : w.heap.size ≤ sg ∧ sg < m ∧ w.heap.size < m ∧ m ≤ wx.heap.size
theorem mid_of {w wc wx w3 : World} {rb : Nat} {SV : Value} {no : List Int} {cl : Int} {R : Int → Rs} {G : Nat → Prop} {NA CA : Option Addr} {nh nc ch cc : Nat} {rp : Int → Nat} {Gc : Int → Nat → Prop} {k v : Int} {sg : Nat} {kd tp : Int}
    (H : RBAtD wc rb SV no R (fun b => G b ∧ b < w.heap.size) NA CA nh nc ch cc rp Gc) (hX : BX w.heap.size k cl v wc) (h1 : Has wc ⟨sg, 1, none⟩ (.int .i64 kd)) (h2 : Has wc ⟨sg, 2, none⟩ (.int .i64 tp)) (hsg : w.heap.size ≤ sg) (hBw : Below w.heap.size w wc)
    (hb : Below wc.heap.size wc wx) {v' : Value} (hO : OntoK wx w3 v' 1 NA nh nc no.length (valsI no) [.int .i64 cl]) :
    ∃ NA' nh' nc', v' = .slice NA' (no.length + 1) nc' ∧ (∃ m, MidX w rb SV no cl R G NA' CA nh' nc' ch cc rp Gc k v sg m kd tp (w3.setCell ⟨rb, 1, none⟩ v')) ∧ Has w3 ⟨rb, 1, none⟩ (.slice NA no.length nc) := by
  obtain ⟨NA', nh', nc', hv, hM, hh, hst⟩ := (H.below hb).pushN hO
  have hn1 : ¬ (G sg ∧ sg < w.heap.size) := fun h => by omega
  have hX2 := hX.below hb
  have g1 := h1.below hb h1.lt
  have g2 := h2.below hb h2.lt
  exact ⟨NA', nh', nc', hv, ⟨wx.heap.size, hM, hX2.keep hst (fun h => by omega), hst.kept.has _ _ g1 hn1, hst.kept.has _ _ g2 hn1, ((Step.of_below hBw).trans (.of_below hb)).trans hst, hsg, g1.lt, hX2.k.lt, hst.kept.size⟩, hh⟩
theorem underC : Try.prog.underlying 31 = some (.slice 61) := by kernel_rfl
theorem infoC : (Try.prog.info? 61).map (fun i => (i.zero, i.size, i.bytes)) = some (some (.pointer none), 1, 8) := by kernel_rfl
theorem bl_two_drew (w : World) (o o' : Obj) : Below w.heap.size w ((w.alloc o).alloc o').drew := (((Below.refl _ _).alloc (Nat.le_refl _) o).alloc (by rw [alloc_size]; omega) o').drew
theorem news_at2 (w : World) (n : Nat) (hn : w.heap.size = n) (xs : List Value) (cs : Array Value) (t : TypeId) (hc : cs = xs.toArray) : ∀ j u, xs[j]? = some u → (w.alloc (.cells cs t)).drew.cell? ((⟨n, 0, none⟩ : Addr).add j) = some u := by
  subst hn
  exact news_at w xs cs t hc
theorem fresh_of {X : Bk} {R : Int → Rs} {i : Nat} (h : SimB X R i) {cl : Int} (hcl : cl ∉ X.no) {s : Strip} (hs : stripAt X.L cl = some s) (h0 : 0 ≤ cl) : R cl = newR s.kind s.top := by
  rw [h.fresh cl hcl]
  unfold newRC
  rw [if_neg (by omega), hs]
/-- The cell stands among those that were used. -/
structure Entered (w : World) (rb : Nat) (SV : Value) (no : List Int) (cl : Int) (R : Int → Rs) (G : Nat → Prop) (k v : Int) (wx : World) : Prop where
  ex : ∃ NA CA nh nc ch cc rp Gc m, w.heap.size < m ∧ RBAtD wx rb SV (addN no cl) R (fun b => (G b ∧ b < w.heap.size) ∨ m ≤ b) NA CA nh nc ch cc rp Gc
  box : BX w.heap.size k cl v wx
  step : Step (fun b => G b ∧ b < w.heap.size) w wx
theorem done_of {w W w3 : World} {rb : Nat} {SV : Value} {no : List Int} {cl : Int} {R : Int → Rs} {G : Nat → Prop} {NA CA : Option Addr} {nh nc ch cc : Nat} {rp : Int → Nat} {Gc : Int → Nat → Prop} {k v : Int} {sg m : Nat} {kd tp : Int}
    (H : MidX w rb SV no cl R G NA CA nh nc ch cc rp Gc k v sg m kd tp W) (hcl : cl ∉ no) (hR : R cl = newR kd tp) {tc tp' : TypeId} {v' : Value}
    (hO : OntoK ((W.alloc (.cells #[.int .i64 kd, .int .i64 tp, .int .i64 0, .int .i64 0, .slice none 0 0] tc)).alloc (.cells #[.pointer (some ⟨W.heap.size, 0, none⟩)] tp')).drew w3 v' 1 CA ch cc no.length (ptrs no rp) [.pointer (some ⟨W.heap.size, 0, none⟩)]) :
    ∃ CA' cc', v' = .slice CA' (no.length + 1) cc' ∧ Entered w rb SV no cl R G k v (w3.setCell ⟨rb, 2, none⟩ v') ∧ Has w3 ⟨rb, 2, none⟩ (.slice CA no.length cc) := by
  have hb := bl_two_drew W (.cells #[.int .i64 kd, .int .i64 tp, .int .i64 0, .int .i64 0, .slice none 0 0] tc) (.cells #[.pointer (some ⟨W.heap.size, 0, none⟩)] tp')
  have hm := H.sm.2.2.2
  have hM := H.mid.keep hb
  have hsz := H.step.kept.size
  have hrb : rb < W.heap.size := H.mid.l.lt
  have hr0 := newRAt W kd tp tc _ rfl
  have hr : RAt ((W.alloc (.cells #[.int .i64 kd, .int .i64 tp, .int .i64 0, .int .i64 0, .slice none 0 0] tc)).alloc (.cells #[.pointer (some ⟨W.heap.size, 0, none⟩)] tp')).drew W.heap.size (newR kd tp) none W.heap.size 0 (fun b => b = W.heap.size) :=
    hr0.below (((Below.refl _ _).alloc (Nat.le_refl _) _).drew)
  have hsz2 : W.heap.size < ((W.alloc (.cells #[.int .i64 kd, .int .i64 tp, .int .i64 0, .int .i64 0, .slice none 0 0] tc)).alloc (.cells #[.pointer (some ⟨W.heap.size, 0, none⟩)] tp')).drew.heap.size := hr.lt
  obtain ⟨CA', ch', cc', hv, hD, hh, hst⟩ := hM.pushK hcl hR hr (fun b hb => by
    subst hb
    refine ⟨hsz2, by omega, fun h => ?_, fun h => ?_, .inr hm⟩
    · have := H.mid.rn.lt (by decide) h; omega
    · have := H.mid.rk.lt (by decide) h; omega) (fun n hn b hb hc => by
    subst hb
    have := H.mid.ct n hn _ hc; omega) hO
  obtain ⟨m1, m2, m3, _⟩ := H.sm
  have hng : ¬ ((G w.heap.size ∧ w.heap.size < w.heap.size) ∨ m ≤ w.heap.size) := fun h => by omega
  have haddN : addN no cl = no ++ [cl] := by unfold addN; rw [if_neg hcl]
  have hD2 := hD.mono (G' := fun b => (G b ∧ b < w.heap.size) ∨ m ≤ b) (fun b hb => by
    rcases hb with hb | hb
    · exact hb
    · exact .inr (by omega))
  rw [← haddN] at hD2
  exact ⟨CA', cc', hv, ⟨⟨_, _, _, _, _, _, _, _, m, m3, hD2⟩, (H.box.below hb).keep hst hng, (H.step.trans (.of_below hb)).trans' hst (fun b hb => hb.elim .inl (fun h => .inr (by omega)))⟩, hh⟩
set_option maxRecDepth 20000 in
set_option maxHeartbeats 4000000 in
theorem beginRB_ok (w : World) (rb : Nat) (SA : Option Addr) (len sc : Nat) (X : Bk) (R : Int → Rs) (i : Nat) (G : Nat → Prop) (t k cl v : Int) (H : RBAt w rb (.slice SA len sc) X.no R G) (hS : SimB X R i) (hlen : X.L.length = len) (hr : RS w SA sc X.L) (hi : i ≤ 90) (hin : inB X cl = true) (hbu : busyB X t = none) (hee : errB (X.c cl) t k = 0) :
    Calls Try.prog 10 #[.pointer (some ⟨rb, 0, none⟩), .int .i64 t, .agg #[.int .i64 k, .int .i64 cl, .int .i64 v]] w fun e w' => e = .returned (.int .i64 (errBB X t k cl)) ∧ RBNow w w' rb (.slice SA len sc) (begBB X t k cl v).no (rbeg X R t k cl v) G := by
  obtain ⟨NA, CA, nh, nc, ch, cc, rp, Gc, H0⟩ := H.tight
  clear H
  have hrb : rb < w.heap.size := H0.l.lt
  obtain ⟨W1, hW1⟩ : ∃ W1, W1 = w.alloc (.cells #[.int .i64 k, .int .i64 cl, .int .i64 v] 35) := ⟨_, rfl⟩
  have hB1 : Below w.heap.size w W1 := by rw [hW1]; exact (Below.refl _ _).alloc (Nat.le_refl _) _
  have hs1 : W1.heap.size = w.heap.size + 1 := by rw [hW1, alloc_size]
  have H1 := Lib.hid (H0.below hB1)
  have hX1 : BX w.heap.size k cl v W1 := by rw [hW1]; exact BX.new _ _ _ _ _
  have HAT := Lib.hid (fun (wx : World) (hb : Below W1.heap.size W1 wx) => atR_is wx SA sc len X.L cl hlen ((hr.below hB1).below hb) hS.good.ok)
  have HW := Lib.hid hW1
  have HS := Lib.hid hS
  have c0 := H1.out.l.1
  have x1 := hX1.c.1
  clear H0 hS hr
  have he0 := hee
  have HE : Hid (errBB X t k cl = 0 ∧ (begBB X t k cl v).no = addN X.no cl ∧ rbeg X R t k cl v = updZ R cl (begr (R cl) t k cl v)) := by
    have he : errBB X t k cl = 0 := by unfold errBB; rw [hin, hbu]; exact hee
    exact Lib.hid ⟨he, by rw [begBB_ok he], by unfold rbeg; rw [if_neg (by rw [he]; simp)]⟩
  have hin2 : 0 ≤ cl ∧ cl < sumS X.L := by simpa [inB] using hin
  have hsum := (errS_ok HS.out.good.ok).2
  obtain ⟨s, hs⟩ : ∃ s, stripAt X.L cl = some s := by
    have h2 := (stripAt_iff (errS_many HS.out.good.ok) hin2.1).2 hin2.2
    cases e : stripAt X.L cl with
    | none => rw [e] at h2; cases h2
    | some s => exact ⟨s, rfl⟩
  rw [atV_some hin2.1 hs] at HAT
  have HST := Lib.hid (And.intro hs hin2)
  clear hs hin
  have hbr := HS.out.busy t
  rw [hbu] at hbr
  simp only at hbr
  obtain ⟨htt, hkk, _⟩ := errB_zero he0
  obtain ⟨g0, g8⟩ := isT_iff htt
  have herr := (HS.out.sim cl).errB t k
  rw [he0] at herr
  have d0 : decide (0 ≤ t) = true := by simp [g0]
  have d8 : decide (t < 8) = true := by simp [g8]
  have d1 : decide (t < 0) = false := by simp; omega
  have d7 : decide (7 < t) = false := by simp; omega
  have k1 : decide (k < 1) = false := by simp; omega
  have k2 : decide (2 < k) = false := by simp; omega
  have HBR := Lib.hid (And.intro hbr herr)
  clear hbr hbu htt hW1 hee he0 herr hkk
  go_enter Try.func10, Try.ntmps10
  go_wp2_with fail
  go_upto_region 1 with fail
  rw [← HW.out]
  go_cut [7, 8] (fun a o wx => o = .bool true ∧ Hid (∃ sg, a = .pointer (some ⟨sg, 0, none⟩) ∧ SBox W1 wx sg 1 s.kind s.top))
  case first =>
    go_region_with (first | (go_at_call 27; refine (HAT.out _ (by first | exact (Below.refl _ _).drew | exact bl_alloc_drew _ _)).mono ?_; rintro e w2 ⟨rfl, hb⟩; first | (have hz := zero_of hs1 hb; obtain ⟨hz0, hz1, hz2⟩ := And.intro hz.z0 (And.intro hz.z1 hz.z2); have z0 := hz0.1; have z1 := hz1.1; have z2 := hz2.1; have f0 := hz0.2; have f1 := hz1.2; have f2 := hz2.2; have F := Lib.hid (hz.put 1 s.kind s.top); clear hb hz hz0 hz1 hz2) | (have F := Lib.hid (sbox_alloc hb 1 s.kind s.top 48); clear hb)))
    all_goals
      go_wp2_with fail
      go_meet
      exact ⟨rfl, Lib.hid ⟨_, rfl, F.out⟩⟩
  case rest =>
    obtain ⟨ho, hq⟩ := hcut
    subst ho
    obtain ⟨sg, ha, hSB⟩ := hq.out
    subst ha
    clear hq
    have hBc := hSB.below
    have H2 := Lib.hid (H1.out.below hBc)
    have hX2 := hX1.below hBc
    have x2 := hX2.c.1
    have x3 := hX2.k.1
    have hBw : Below w.heap.size w wc := hB1.trans (hBc.mono (by omega))
    have HBC := Lib.hid (busyRB_is H2.out t)
    rw [HBR.out.1] at HBC
    have HPC := Lib.hid (placeR_is H2.out cl)
    have hk1 := hSB.z1
    have hk2 := hSB.z2
    have hsg := hSB.size
    have HX2 := Lib.hid (And.intro hX2 (And.intro hk1 hk2))
    clear hSB hk1 hk2
    go_wp2_with fail
    refine HBC.out.mono ?_; rintro e wz ⟨rfl, hwz⟩
    subst hwz
    go_wp2_with fail
    refine HPC.out.mono ?_; rintro e wz ⟨rfl, hwz⟩
    subst hwz
    go_upto_if 53 with fail
    go_cut [] (fun wx => Hid (Entered w rb (.slice SA len sc) X.no cl R G k v wx))
    case first =>
      by_cases hus : cl ∈ X.no
      · obtain ⟨p, hp, hpl, _⟩ := place_in hus
        rw [hpl]
        have dp : decide ((p : Int) < 0) = false := by simp
        have F := Lib.hid (show Entered w rb (.slice SA len sc) X.no cl R G k v wc from ⟨⟨_, _, _, _, _, _, _, _, wc.heap.size, HX2.out.1.k.lt, by rw [addN_in hus]; exact H2.out.mono (fun b hb => .inl hb)⟩, HX2.out.1, .of_below hBw⟩)
        clear hpl hus
        go_wp2_with fail
        go_meet
        exact F
      · rw [place_out hus]
        have hl : X.no.length ≤ 100000 := by have := HS.out.nol; omega
        have c1 := H2.out.n.1
        have hn1 := H2.out.n
        have c1a : ∀ (o : Obj), (wc.alloc o).cell? ⟨rb, 1, none⟩ = some (.slice NA X.no.length nc) := fun o => (hn1.alloc o).1
        have HRN := Lib.hid (fun (wx : World) (hb : Below wc.heap.size wc wx) => H2.out.rn.below hb)
        have HPN := Lib.hid (fun (wx w3 : World) (v' : Value) (hb : Below wc.heap.size wc wx) (hO : OntoK wx w3 v' 1 NA nh nc X.no.length (valsI X.no) [.int .i64 cl]) => mid_of H2.out HX2.out.1 HX2.out.2.1 HX2.out.2.2 (show w.heap.size ≤ sg by omega) hBw hb hO)
        have HUS := Lib.hid (And.intro hus hBw)
        have HONE : ∀ u ∈ [Value.int .i64 cl], u.oneCell' = true := by intro u hu; simp at hu; subst hu; rfl
        clear hn1 hus
        go_upto_region 9 with fail
        go_cut [] (fun wx => Hid (∃ NA' nh' nc' m, MidX w rb (.slice SA len sc) X.no cl R G NA' CA nh' nc' ch cc rp Gc k v sg m s.kind s.top wx))
        case first =>
          go_region_law (first
            | (refine step_app_k rfl _ _ 30 3 rfl 1 (.int .i64 0) 8 underI infoInt rfl (by decide) (by decide) (HRN.out _ (by first | exact bl_alloc_drew _ _ | exact bl_drewN_alloc _ _ _)) hl rfl ⟨_, 0, none⟩ rfl rfl HONE (news_at _ [.int .i64 cl] _ _ rfl) ?_
               intro v' w3 hO
               obtain ⟨NA', nh', nc', rfl, hM, hh⟩ := HPN.out _ _ _ (by first | exact bl_alloc_drew _ _ | exact bl_drewN_alloc _ _ _) hO
               have e1 := hh.1
               have f1 := hh.2
               have F := Lib.hid hM
               clear hM hO hh))
          all_goals
            go_wp2_with fail
            go_meet
            obtain ⟨m, hm⟩ := F.out
            exact Lib.hid ⟨_, _, _, m, hm⟩
        case rest =>
          clear HRN HPN c1 c1a HONE HBC HPC x2 x3
          obtain ⟨NA1, nh1, nc1, m5, hM⟩ := hcut.out
          clear hcut
          obtain ⟨W5, hW5⟩ : ∃ W5, W5 = wc := ⟨_, rfl⟩
          rw [← hW5] at hM ⊢
          clear hW5
          have y1 := hM.s1.1
          have y2 := hM.s2.1
          have hk5 := hM.mid.k
          have q0 := hk5.1
          have q1 : ∀ (o : Obj), (W5.alloc o).cell? ⟨rb, 2, none⟩ = some (.slice CA X.no.length cc) := fun o => (hk5.alloc o).1
          have q2 : ∀ (o o' : Obj), ((W5.alloc o).alloc o').cell? ⟨rb, 2, none⟩ = some (.slice CA X.no.length cc) := fun o o' => ((hk5.alloc o).alloc o').1
          have hlt5 : rb < W5.heap.size := hk5.lt
          have HRK := Lib.hid (fun (wx : World) (hb : Below W5.heap.size W5 wx) => hM.mid.rk.below hb)
          have HM := Lib.hid hM
          have HONE : ∀ u ∈ [Value.pointer (some ⟨W5.heap.size, 0, none⟩)], u.oneCell' = true := by intro u hu; simp at hu; subst hu; rfl
          clear hk5 hM
          go_upto_region 10 with fail
          go_region_law (first
            | (refine step_app_k rfl _ _ 31 61 rfl 1 (.pointer none) 8 underC infoC rfl (by decide) (by decide) (HRK.out _ (bl_two_drew _ _ _)) hl rfl ⟨_, 0, none⟩ rfl rfl HONE (news_at2 _ _ (alloc_size _ _) [.pointer (some ⟨W5.heap.size, 0, none⟩)] _ _ rfl) ?_
               intro v' w3 hO
               obtain ⟨CA', cc', rfl, hF, hh⟩ := done_of HM.out HUS.out.1 (fresh_of HS.out HUS.out.1 HST.out.1 HST.out.2.1) hO
               have e1 := hh.1
               have f1 := hh.2
               have F := Lib.hid hF
               clear hF hO hh))
          all_goals
            go_wp2_with fail
            go_meet
            exact F
    case rest =>
      clear HBC HPC HX2 H2 x2 x3
      obtain ⟨⟨NA5, CA5, nh5, nc5, ch5, cc5, rp5, Gc5, m5, hm5, hD⟩, hX, hst⟩ := hcut.out
      clear hcut
      obtain ⟨W7, hW7⟩ : ∃ W7, W7 = wc := ⟨_, rfl⟩
      rw [← hW7] at hD hX hst ⊢
      clear hW7
      have hmem : cl ∈ addN X.no cl := mem_addN.2 (.inr rfl)
      obtain ⟨p, hp, hpl, hnp⟩ := place_in hmem
      obtain ⟨_, _, hCA, y1⟩ := hD.at_ hp
      subst hCA
      rw [hnp] at y1
      have y0 := hD.k.1
      have hmax := hD.max
      obtain ⟨A, h, c, hrr⟩ := hD.c cl hmem
      obtain ⟨l1, l2, l3⟩ := HS.out.len cl
      have HC := Lib.hid (fun (wx : World) (hb : Below W7.heap.size W7 wx) => beginR_is wx (rp5 cl) (R cl) A h c (Gc5 cl) t k cl v (hrr.below hb) (by omega) (by omega))
      rw [← HBR.out.2] at HC
      have HP := Lib.hid (fun (wx : World) (hb : Below W7.heap.size W7 wx) => placeR_is (hD.below hb) cl)
      rw [hpl] at HP
      have HX := Lib.hid (fun (wx w' : World) (hb : Below W7.heap.size W7 wx) (hN : RNow wx w' (rp5 cl) (begr (R cl) t k cl v) (Gc5 cl)) => (hD.below hb).cell hmem hN)
      have HGc := Lib.hid (fun (b : Nat) (hb : Gc5 cl b) => (hD.cG cl hmem b hb).1)
      have hzz : ∀ (wx w' : World) (hb : Below W7.heap.size W7 wx) (hN : RNow wx w' (rp5 cl) (begr (R cl) t k cl v) (Gc5 cl)), w'.cell? ⟨rb, 2, none⟩ = some (.slice (some ⟨ch5, 0, none⟩) (addN X.no cl).length cc5) ∧ w'.cell? ⟨ch5, p, none⟩ = some (.pointer (some ⟨rp5 cl, 0, none⟩)) ∧ w'.cell? ⟨w.heap.size, 0, none⟩ = some (.int .i64 k) ∧ w'.cell? ⟨w.heap.size, 1, none⟩ = some (.int .i64 cl) ∧ w'.cell? ⟨w.heap.size, 2, none⟩ = some (.int .i64 v) := fun wx w' hb hN => by
        have hbx := (hX.below hb).keep hN.step (fun h => by
          rcases HGc.out _ h with h1 | h1 <;> omega)
        have h2 := HX.out wx w' hb hN
        have h3 := (h2.at_ hp).2.2.2
        rw [hnp] at h3
        exact ⟨h2.k.1, h3, hbx.k.1, hbx.c.1, hbx.v.1⟩
      obtain ⟨ln, hln⟩ : ∃ ln, (addN X.no cl).length = ln := ⟨_, rfl⟩
      rw [hln] at hzz y0 hp hmax
      have hp2 : (p : Int) < (ln : Int) := by omega
      have HZ := Lib.hid hzz
      have HS0 := Lib.hid (And.intro y0 y1)
      have HXF := Lib.hid (And.intro hX hst)
      have b0 := hX.k.1
      have b1 := hX.c.1
      have b2 := hX.v.1
      clear hD hX hst hrr hpl hnp hmem hzz hln
      go_wp2_with fail
      go_region_held3 (fun wx => wx.cell? ⟨rb, 2, none⟩ = some (.slice (some ⟨ch5, 0, none⟩) ln cc5) ∧ wx.cell? ⟨ch5, p, none⟩ = some (.pointer (some ⟨rp5 cl, 0, none⟩)) ∧ wx.cell? ⟨w.heap.size, 0, none⟩ = some (.int .i64 k) ∧ wx.cell? ⟨w.heap.size, 1, none⟩ = some (.int .i64 cl) ∧ wx.cell? ⟨w.heap.size, 2, none⟩ = some (.int .i64 v))
        (first | exact ⟨HS0.out.1, HS0.out.2, HXF.out.1.k.1, HXF.out.1.c.1, HXF.out.1.v.1⟩ | exact HZ.out _ _ (Below.refl _ _).drew hN)
        (first
        | (go_at_call 22; with_reducible refine (HP.out _ (Below.refl _ _).drew).mono ?_; rintro e w' ⟨rfl, rfl⟩)
        | (go_at_call 28; with_reducible refine (HC.out _ (Below.refl _ _).drew).mono ?_; rintro e w' ⟨rfl, hN⟩))
      have h8 := HX.out _ _ (Below.refl _ _).drew hN
      have hst8 : Step (fun b => G b ∧ b < w.heap.size) w w' := (HXF.out.2.trans (.of_below (Below.refl _ _).drew)).trans' hN.step (fun b hb => (HGc.out b hb).elim .inl (fun h => .inr (by omega)))
      have hsz8 : w.heap.size ≤ W7.heap.size := HXF.out.2.kept.size
      have hF := h8.at0.mono (G' := More w G) (fun b hb => by
        rcases hb with (hb | hb) | hb
        · exact .inl hb.1
        · exact .inr (by omega)
        · exact .inr (Nat.le_trans hsz8 hb))
      have F := Lib.hid (And.intro hF (hst8.mono (fun b hb => hb.1)))
      clear h8 hst8 hsz8 hF hN
      go_wp2_with fail
      go_ret
      refine ⟨ret_int HE.out.1.symm, ?_⟩
      rw [HE.out.2.1, HE.out.2.2]
      exact ⟨F.out.1, F.out.2⟩
end Go.Proofs.Ytdfkmkflcnfchaa
