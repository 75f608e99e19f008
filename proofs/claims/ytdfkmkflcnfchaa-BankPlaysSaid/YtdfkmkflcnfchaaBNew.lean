/- The bank's New. Own work. -/
import Derived.Test.YtdfkmkflcnfchaaBNewH
import Derived.Deep.DeepCutAuto
import Derived.Deep.RegionLaw
namespace Go.Proofs.Ytdfkmkflcnfchaa
open Go.ChangeShapes Go.WideShapes Go.ChangeAt Go.RowKit CellM

theorem infoS : (Try.prog.info? 48).map (fun i => (i.zero, i.size, i.bytes)) = some (some (.agg #[.int .i64 0, .int .i64 0, .int .i64 0]), 3, 24) := by kernel_rfl
theorem underS : Try.prog.underlying 22 = some (.slice 48) := by kernel_rfl
theorem underI : Try.prog.underlying 30 = some (.slice 3) := by kernel_rfl
theorem news_at (w : World) (xs : List Value) (cs : Array Value) (t : TypeId) (hc : cs = xs.toArray) : ∀ j u, xs[j]? = some u → (w.alloc (.cells cs t)).cell? ((⟨w.heap.size, 0, none⟩ : Addr).add j) = some u := by
  intro j u hj
  have : (⟨w.heap.size, 0, none⟩ : Addr).add j = ⟨w.heap.size, j, none⟩ := by unfold Addr.add; split <;> simp_all
  rw [this]
  exact (has_new w cs t j u (by rw [hc]; simpa using hj)).1
theorem bl_drewN (w : World) (n : Nat) : Below w.heap.size w (w.drewN n) := below_drewN (Below.refl _ _) n
theorem bl_drewN_alloc (w : World) (n : Nat) (o : Obj) : Below w.heap.size w ((w.drewN n).alloc o) := (bl_drewN w n).alloc (Nat.le_refl _) o
theorem bl_alloc_drew (w : World) (o : Obj) : Below w.heap.size w (w.alloc o).drew := ((Below.refl _ _).alloc (Nat.le_refl _) o).drew
/-- What New gives. -/
def NewGives (w : World) (L : List Strip) (e : Ending) (w' : World) : Prop :=
  if errS L = 0 then ∃ bb, e = .returned (.tuple #[.pointer (some ⟨bb, 0, none⟩), .int .i64 0]) ∧ BAt w' bb (newB L) 0 (fun b => w.heap.size ≤ b) ∧ Below w.heap.size w w'
  else e = .returned (.tuple #[.pointer none, .int .i64 (errS L)]) ∧ Below w.heap.size w w'
set_option maxRecDepth 20000 in
set_option maxHeartbeats 8000000 in
theorem newB_is (w : World) (A : Option Addr) (c n : Nat) (L : List Strip) (hn : L.length = n) (hr : RS w A c L) :
    Calls Try.prog 6 #[.slice A n c] w (NewGives w L) := by
  subst hn
  have hmax := hr.max
  have R := Lib.hid hr; clear hr
  by_cases hok : errS L = 0
  · have HM := Lib.hid (errS_many hok)
    have HS := Lib.hid (errS_ok hok).2
    have HF := Lib.hid (filt_sum L (errS_many hok))
    have HC := Lib.hid (count_is w A c L.length L rfl R.out)
    rw [hok] at HC
    have hmm := @run_makeMap Try.prog
    have HOK := Lib.hid hok
    clear hok
    go_enter Try.func6, Try.ntmps6
    go_wp2_with fail
    refine HC.out.mono ?_; rintro e w1 ⟨rfl, hb⟩
    have H0 := Lib.hid (NewAt.start w w1 hb L 59 _ rfl)
    have HB1 := Lib.hid hb; clear hb
    go_wp2_with fail
    go_loopw [22] (fun i wr => ∃ k : Nat, k ≤ L.length ∧ i = .int .i64 k ∧ Hid (∃ SA EA sh sc eh ec, NewAt w wr (w1.heap.size + 1) w1.heap.size L k k SA EA sh sc eh ec)) (fun i _ => L.length - (intOf i).toNat)
    case atStart => exact ⟨0, by omega, rfl, Lib.hid ⟨none, none, 0, 0, 0, 0, H0.out⟩⟩
    case round =>
      obtain ⟨k, hk, rfl, HN⟩ := hrel
      clear H0
      by_cases hlt : k < L.length
      · obtain ⟨SA, EA, sh, sc, eh, ec, hN⟩ := HN.out
        clear HN
        obtain ⟨ad, rfl, h0, h1, h2⟩ := (R.out.below hN.below).2.2 k hlt
        by_cases hp : 0 < L[k].many
        · have hFk := filt_sum (L.take k) (fun s hs => HM.out s (List.mem_of_mem_take hs))
          have hsl := sumS_le HM.out k
          have hsn := sumS_nonneg (l := L.take k) (fun s hs => HM.out s (List.mem_of_mem_take hs))
          have hsl2 := sumS_le HM.out (k + 1)
          rw [sumS_take hlt] at hsl2
          obtain ⟨s, hs⟩ : ∃ s, L[k] = s := ⟨_, rfl⟩
          obtain ⟨sv, hsv⟩ : ∃ sv, sumS (L.take k) = sv := ⟨_, rfl⟩
          obtain ⟨nf, hnf⟩ : ∃ nf, (filt (L.take k)).length = nf := ⟨_, rfl⟩
          rw [hs] at h0 h1 h2 hp hsl2
          rw [hsv] at hFk hsl hsn hsl2
          rw [hnf] at hFk
          have hlast : (endsF 0 (L.take k)).getLastD 0 = sv := by rw [ends_last _ _ (fun s hs => HM.out s (List.mem_of_mem_take hs)), hsv]; omega
          have hss := HS.out
          have hwk : IntKind.i64.wrap (sv + s.many) = sv + s.many := by rw [IntKind.wrap_i64]; omega
          have hnl : nf ≤ 100000 := by omega
          obtain ⟨W1, hW1⟩ : ∃ W1, W1 = wr.alloc (.cells #[.int .i64 s.many, .int .i64 s.kind, .int .i64 s.top] 48) := ⟨_, rfl⟩
          have hB1 : Below wr.heap.size wr W1 := by rw [hW1]; exact (Below.refl _ _).alloc (Nat.le_refl _) _
          have hX1 : BX wr.heap.size s.many s.kind s.top W1 := by rw [hW1]; exact BX.new _ _ _ _ _
          have hN1 := hN.grow hB1
          have hbb : w1.heap.size + 1 < wr.heap.size := hN.s.lt
          have hge : ec ≠ 0 → wr.heap.size ≠ eh := fun h => by have := hN.re.lt (by decide) h; omega
          have hRE := hN1.re
          rw [hnf] at hRE
          have cE := hN1.e
          rw [hnf] at cE
          have HL := Lib.hid (fun (wx : World) (hb : Below W1.heap.size W1 wx) => lenB_is wx (w1.heap.size + 1) EA eh ec nf _ sv (cE.below hb cE.lt) (hRE.below hb) hlast)
          have HRE := Lib.hid (fun (wx : World) (hb : Below W1.heap.size W1 wx) => hRE.below hb)
          have c1 := cE.1
          have x0 := hX1.k.1
          have HON := Lib.hid (fun (W2 w3 : World) (v' : Value) (hB : Below W1.heap.size W1 W2) hO => hN1.ontoE (w3 := w3) (v' := v') HM.out hlt hs hsv hp hB hnf hX1 hge (by omega) hO)
          have c1a : ∀ (n : Nat) (o : Obj), ((W1.drewN n).alloc o).cell? ⟨w1.heap.size + 1, 1, none⟩ = some (.slice EA nf ec) := fun n o => (Has.alloc (w := W1.drewN n) (p := ⟨w1.heap.size + 1, 1, none⟩) cE o).1
          have HW := Lib.hid hW1
          have HQ := Lib.hid (And.intro hs hnf)
          clear hN hN1 hRE cE hsv hlast hW1 hX1 hge hB1 hs hnf
          go_upto_region 9 with fail
          rw [← HW.out]
          go_cut [] (fun wx => Hid (∃ EA' eh' ec', NewAt w wx (w1.heap.size + 1) w1.heap.size L (k + 1) k SA EA' sh sc eh' ec' ∧ BX wr.heap.size s.many s.kind s.top wx))
          case first =>
            have HONE : ∀ u ∈ [Value.int .i64 (sv + s.many)], u.oneCell' = true := by intro u hu; simp at hu; subst hu; rfl
            go_region_law (first
              | (go_simp; go_at_call 20; refine (HL.out _ (by first | exact (Below.refl _ _).drew | exact bl_drewN _ _)).mono ?_; rintro e w2 ⟨rfl, qq, rfl⟩)
              | (refine step_app_k rfl _ _ 30 3 rfl 1 (.int .i64 0) 8 underI infoInt rfl (by decide) (by decide) (HRE.out _ (by first | exact bl_drewN_alloc _ _ _ | exact bl_alloc_drew _ _)) hnl rfl ⟨_, 0, none⟩ rfl rfl HONE (news_at _ [.int .i64 (sv + s.many)] _ _ (by first | rfl | simp [hwk])) ?_
                 intro v' w3 hO
                 obtain ⟨EA', eh', ec', rfl, hN3, hh, hb3, _⟩ := HON.out _ _ _ (by first | exact bl_drewN_alloc _ _ _ | exact bl_alloc_drew _ _) hO
                 have e1 := hh.1
                 have f1 := hh.2
                 have F := Lib.hid (And.intro hN3 hb3)
                 clear hN3 hb3 hO hh))
            all_goals
              go_wp2_with fail
              go_meet
              exact Lib.hid ⟨_, _, _, F.out.1, F.out.2⟩
          case rest =>
            clear HRE HON HL c1 x0 c1a HW hwk
            obtain ⟨EA1, eh1, ec1, hN, hX⟩ := hcut.out
            clear hcut
            have cS := hN.s
            rw [HQ.out.2] at cS
            have hRS := hN.rs
            rw [HQ.out.2] at hRS
            have y0 := hX.k.1
            have y1 := hX.c.1
            have y2 := hX.v.1
            have c0 := cS.1
            have c0a : ∀ (o : Obj), (wc.alloc o).cell? ⟨w1.heap.size + 1, 0, none⟩ = some (.slice SA nf sc) := fun o => (Has.alloc cS o).1
            have HRS := Lib.hid (fun (wx : World) (hb : Below wc.heap.size wc wx) => hRS.below hb)
            have HOS := Lib.hid (fun (W2 w3 : World) (v' : Value) (hB : Below wc.heap.size wc W2) hO => hN.ontoS (w3 := w3) (v' := v') hlt HQ.out.1 hp hB HQ.out.2 hO)
            clear hN hX cS hRS
            go_upto_region 10 with fail
            have HONE : ∀ u ∈ cells3 s, u.oneCell' = true := by intro u hu; unfold cells3 at hu; simp at hu; rcases hu with rfl | rfl | rfl <;> rfl
            go_region_law (first
              | (refine step_app_k rfl _ _ 22 48 rfl 3 (.agg #[.int .i64 0, .int .i64 0, .int .i64 0]) 24 underS infoS rfl (by decide) (by decide) (HRS.out _ (by first | exact bl_drewN_alloc _ _ _ | exact bl_alloc_drew _ _)) hnl rfl ⟨_, 0, none⟩ rfl rfl HONE (news_at _ (cells3 s) _ _ rfl) ?_
                 intro v' w3 hO
                 obtain ⟨SA', sh', sc', rfl, hN3, hh⟩ := HOS.out _ _ _ (by first | exact bl_drewN_alloc _ _ _ | exact bl_alloc_drew _ _) hO
                 have e1 := hh.1
                 have f1 := hh.2
                 have F := Lib.hid hN3
                 clear hN3 hO hh))
            all_goals
              go_wp2_with fail
              go_roundw
              case rel => exact ⟨k + 1, by omega, by go_num, Lib.hid ⟨_, _, _, _, _, _, F.out⟩⟩
              case measure => simp [intOf]; omega
        · have HN := Lib.hid ((hN.skip HM.out hlt hp).grow ((Below.refl _ _).alloc (Nat.le_refl _) (.cells #[.int .i64 L[k].many, .int .i64 L[k].kind, .int .i64 L[k].top] 48)))
          clear hN
          go_wp2_with fail
          go_roundw
          case rel => exact ⟨k + 1, by omega, by go_num, Lib.hid ⟨_, _, _, _, _, _, HN.out⟩⟩
          case measure => simp [intOf]; omega
      · obtain rfl : k = L.length := by omega
        obtain ⟨SA, EA, sh, sc, eh, ec, hN⟩ := HN.out
        have HD := Lib.hid (And.intro hN.done hN.below)
        clear HN hN
        go_wp2_with fail
        go_ret2
        unfold NewGives
        rw [if_pos HOK.out]
        exact ⟨_, rfl, HD.out.1, HD.out.2⟩
  · have HC := Lib.hid (count_is w A c L.length L rfl R.out)
    have d1 : (errS L != 0) = true := by simp [hok]
    have HOK := Lib.hid hok
    clear hok
    go_enter Try.func6, Try.ntmps6
    go_wp2_with fail
    refine HC.out.mono ?_; rintro e w1 ⟨rfl, hb⟩
    have HB1 := Lib.hid hb; clear hb
    go_wp2_with fail
    go_ret2
    unfold NewGives
    rw [if_neg (show ¬ _ from HOK.out)]
    exact ⟨rfl, HB1.out⟩
end Go.Proofs.Ytdfkmkflcnfchaa
