/- The reference's Do: acts upon its Mem. Own work. -/
import Derived.Test.YthpdfmjcchcijaaTRef2
import Derived.Test.YthpdfmjcchcijaaTRefS
import Derived.Deep.RegionWith
namespace Go.Proofs.Ythpdfmjcchcijaa
open Go.ChangeShapes Go.WideShapes Go.ChangeAt Go.RowKit CellM TapeM

/-- The loop's state. -/
structure HereR (w wr : World) (mb : Nat) (AA : Option Addr) (ac : Nat) (ans : List Int) (F : Nat → Prop) (S : TS) (sum : Int) (i : Nat) (n0 : Nat) (L : List TapeM.Op) (R : Res) : Prop where
  now : RN w wr mb false AA ac ans S F
  run : runA ans (L.drop i) S sum = R
  acc : S.acc.length ≤ ans.length
  nts : S.nts.length ≤ n0 + i
  loc : S.loc.length ≤ 32768
theorem HereR.next {w wr W w' : World} {mb : Nat} {AA : Option Addr} {ac : Nat} {ans : List Int} {F : Nat → Prop} {S T : TS} {sum s' : Int} {k n0 : Nat} {L : List TapeM.Op} {R : Res} (H : HereR w wr mb AA ac ans F S sum k n0 L R) (hb : Below wr.heap.size wr W)
    (hN : RN W w' mb false AA ac ans T (Tight w wr F)) (hrun : runA ans (L.drop (k + 1)) T s' = R) (hacc : T.acc.length ≤ ans.length) (hnts : T.nts.length ≤ S.nts.length + 1) (hloc : T.loc.length ≤ 32768) : HereR w w' mb AA ac ans F T s' (k + 1) n0 L R :=
  ⟨H.now.back hb hN, hrun, hacc, by have := H.nts; omega, hloc⟩
/-- .. going on, or over. -/
def Either (w wr : World) (mb : Nat) (AA : Option Addr) (ac : Nat) (ans : List Int) (F : Nat → Prop) (sum : Int) (i : Nat) (n0 : Nat) (L : List TapeM.Op) (R : Res) : Prop :=
  (∃ S, HereR w wr mb AA ac ans F S sum i n0 L R) ∨ (∃ S, R = .stop S ∧ RN w wr mb true AA ac ans S F)
def valR : Res → Int
  | .go _ x => x
  | .stop _ => 0
def overR : Res → Bool
  | .go _ _ => false
  | .stop _ => true
section
variable {w : World} {mb : Nat} {AA : Option Addr} {ac : Nat} {ans : List Int} {S : TS} {F : Nat → Prop}
set_option maxHeartbeats 16000000 in
set_option maxRecDepth 20000 in
theorem doR_is (B : Nat) (Al : Option Addr) (cl n : Nat) (L : List TapeM.Op) (hn : L.length = n) (hB : B ≤ w.heap.size) (hF : ∀ b, F b → B ≤ b) (HA : ∀ wx, Below B w wx → RO wx Al cl L) (hL : n ≤ 100) (ha : ans.length ≤ 1000)
    (n0 : Nat) (hn0 : n0 ≤ 100) (R : Res) (H : HereR w w mb AA ac ans F S 0 0 n0 L R) :
    Calls Try.prog 11 #[.pointer (some ⟨mb, 0, none⟩), .slice Al n cl] w fun e w' => e = .returned (.int .i64 (valR R)) ∧ RN w w' mb (overR R) AA ac ans R.st F := by
  subst hn
  have HH := Lib.hid H
  have HAA := Lib.hid HA
  have HF := Lib.hid hF
  clear H hF HA
  have hmb0 := HH.out.now.at_.c2.1
  go_enter Try.func11, Try.ntmps11
  go_wp2_with fail
  go_loopw [5, 6] (fun s i wr => ∃ (k : Nat) (sum : Int), k ≤ L.length ∧ i = .int .i64 k ∧ s = .int .i64 sum ∧ Hid (Either w wr mb AA ac ans F sum k n0 L R)) (fun _ i _ => L.length - (intOf i).toNat)
  case atStart => exact ⟨0, 0, Nat.zero_le _, rfl, rfl, Lib.hid (.inl ⟨S, HH.out⟩)⟩
  case round =>
    obtain ⟨k, sum, hk, rfl, rfl, HE⟩ := hrel
    clear hmb0
    rcases HE.out with ⟨S', hR⟩ | ⟨T, hRT, hN⟩
    · have HR := Lib.hid hR
      have hov := hR.now.at_.c2.1
      clear hR HE
      by_cases hlt : k < L.length
      · have hbw : Below B w wr := HR.out.now.step.below B HF.out hB
        obtain ⟨_, _, hro⟩ := HAA.out wr hbw
        obtain ⟨ad, rfl, x0, x1, x2, hk0, hk1⟩ := hro k hlt
        obtain ⟨o, ho⟩ : ∃ o, o = L[k] := ⟨_, rfl⟩
        rw [← ho] at x0 x1 x2 hk0 hk1
        have hrun : stepA ans o S' sum (runA ans (L.drop (k + 1))) = R := by rw [ho, ← run_drop hlt]; exact HR.out.run
        have HRun := Lib.hid hrun
        clear hrun hro ho hbw
        obtain ⟨ok, oa, ob⟩ := o
        simp only at x0 x1 x2 hk0 hk1
        have hbW : Below wr.heap.size wr (wr.alloc (.cells #[.int .u8 ok, .int .i64 oa, .int .i64 ob] 60)) := below_alloc _ _
        have hal := HR.out.acc
        have hq : ok % 6 = 0 ∨ ok % 6 = 1 ∨ ok % 6 = 2 ∨ ok % 6 = 3 ∨ ok % 6 = 4 ∨ ok % 6 = 5 := by omega
        rcases hq with hq | hq | hq | hq | hq | hq
        · rw [step0 hq] at HRun
          by_cases hg : S'.acc.length < ans.length
          · obtain ⟨x, hx⟩ : ∃ x, ans.getD S'.acc.length 0 = x := ⟨_, rfl⟩
            have HRn := Lib.hid ((asks_go hg _ _).symm.trans HRun.out)
            rw [hx] at HRn
            have HX := Lib.hid hx
            clear HRun hx
            go_wp2_with fail
            refine (readR_go (HR.out.now.next hbW) hg (by omega) oa x HX.out).mono ?_; rintro e w' ⟨rfl, hN⟩
            have HN := Lib.hid (HR.out.next hbW hN HRn.out (by simp [askT]; omega) (by simp [askT]) HR.out.loc)
            clear hN
            go_wp2_with fail
            go_roundw
            case rel => exact ⟨k + 1, _, by omega, by go_num, rfl, Lib.hid (.inl ⟨_, HN.out⟩)⟩
            case measure => simp [intOf]; omega
          · have HRn := Lib.hid ((asks_stop hg _ _).symm.trans HRun.out)
            clear HRun
            go_wp2_with fail
            refine (readR_stop (HR.out.now.next hbW) hg (by omega) oa).mono ?_; rintro e w' ⟨rfl, hN⟩
            have HN := Lib.hid (HR.out.now.back hbW hN)
            clear hN
            go_wp2_with fail
            go_roundw
            case rel => exact ⟨k + 1, _, by omega, by go_num, rfl, Lib.hid (.inr ⟨_, HRn.out.symm, HN.out⟩)⟩
            case measure => simp [intOf]; omega
        · rw [step1 hq] at HRun
          by_cases hg : S'.acc.length < ans.length
          · have HRn := Lib.hid ((asks_go hg _ _).symm.trans HRun.out)
            clear HRun
            go_wp2_with fail
            refine (writeR_go (HR.out.now.next hbW) hg (by omega) oa ob).mono ?_; rintro e w' ⟨rfl, hN⟩
            have HN := Lib.hid (HR.out.next hbW hN HRn.out (by simp [askT]; omega) (by simp [askT]) HR.out.loc)
            clear hN
            go_wp2_with fail
            go_roundw
            case rel => exact ⟨k + 1, _, by omega, by go_num, rfl, Lib.hid (.inl ⟨_, HN.out⟩)⟩
            case measure => simp [intOf]; omega
          · have HRn := Lib.hid ((asks_stop hg _ _).symm.trans HRun.out)
            clear HRun
            go_wp2_with fail
            refine (writeR_stop (HR.out.now.next hbW) hg (by omega) oa ob).mono ?_; rintro e w' ⟨rfl, hN⟩
            have HN := Lib.hid (HR.out.now.back hbW hN)
            clear hN
            go_wp2_with fail
            go_roundw
            case rel => exact ⟨k + 1, _, by omega, by go_num, rfl, Lib.hid (.inr ⟨_, HRn.out.symm, HN.out⟩)⟩
            case measure => simp [intOf]; omega
        · rw [step2 hq] at HRun
          have HRn := Lib.hid HRun.out
          clear HRun
          go_wp2_with fail
          refine (setR_is (HR.out.now.next hbW) HR.out.loc oa ob).mono ?_; rintro e w' ⟨rfl, hN⟩
          have HN := Lib.hid (HR.out.next hbW hN HRn.out HR.out.acc (by simp [setT]) (setL_len _ _ _ HR.out.loc))
          clear hN
          go_wp2_with fail
          go_roundw
          case rel => exact ⟨k + 1, _, by omega, by go_num, rfl, Lib.hid (.inl ⟨_, HN.out⟩)⟩
          case measure => simp [intOf]; omega
        · rw [step3 hq] at HRun
          have HRn := Lib.hid HRun.out
          clear HRun
          go_wp2_with fail
          refine (noteR_is (HR.out.now.next hbW) (by have := HR.out.nts; omega) oa).mono ?_; rintro e w' ⟨rfl, hN⟩
          have HN := Lib.hid (HR.out.next hbW hN HRn.out HR.out.acc (by simp [noteT]) HR.out.loc)
          clear hN
          go_wp2_with fail
          go_roundw
          case rel => exact ⟨k + 1, _, by omega, by go_num, rfl, Lib.hid (.inl ⟨_, HN.out⟩)⟩
          case measure => simp [intOf]; omega
        · rw [step4 hq] at HRun
          obtain ⟨y, hy⟩ : ∃ y, getL S'.loc oa = y := ⟨_, rfl⟩
          have hW : ∀ wx, Below wr.heap.size wr wx → Calls Try.prog 35 #[.pointer (some ⟨mb, 0, none⟩), .int .i64 oa] wx fun e w' => e = .returned (.int .i64 y) ∧ wx = w' := fun wx hb => getR_is (HR.out.now.next hb) oa y hy
          have HG := Lib.hid hW
          simp only [hy] at HRun
          clear hy hW
          by_cases hg : S'.acc.length < ans.length
          · have HRn := Lib.hid ((asks_go hg _ _).symm.trans HRun.out)
            have hW : ∀ wx, Below wr.heap.size wr wx → Calls Try.prog 32 #[.pointer (some ⟨mb, 0, none⟩), .int .i64 ob, .int .i64 y] wx fun e w' => e = .returned (.tuple #[]) ∧ HereR w w' mb AA ac ans F (askT S' ⟨2, ob, y⟩) sum (k + 1) n0 L R := fun wx hb =>
              (writeR_go (HR.out.now.next hb) hg (by omega) ob y).mono fun _ _ ⟨h1, h2⟩ => ⟨h1, HR.out.next hb h2 HRn.out (by simp [askT]; omega) (by simp [askT]) HR.out.loc⟩
            have HWr := Lib.hid hW
            clear HRun hW
            go_wp2_with fail
            go_region_with (first
              | (go_at_call 35; refine (HG.out _ (by first | exact bl_alloc_drew _ _ | exact bl_drewN_alloc _ _ _)).mono ?_; rintro e w' ⟨rfl, rfl⟩)
              | (go_at_call 32; refine (HWr.out _ (by first | exact bl_alloc_drew _ _ | exact bl_drewN_alloc _ _ _)).mono ?_; rintro e w' ⟨rfl, hN⟩; have HN := Lib.hid hN; clear hN))
            all_goals
              go_wp2_with fail
              go_roundw
              case rel => exact ⟨k + 1, _, by omega, by go_num, rfl, Lib.hid (.inl ⟨_, HN.out⟩)⟩
              case measure => simp [intOf]; omega
          · have HRn := Lib.hid ((asks_stop hg _ _).symm.trans HRun.out)
            have hW : ∀ wx, Below wr.heap.size wr wx → Calls Try.prog 32 #[.pointer (some ⟨mb, 0, none⟩), .int .i64 ob, .int .i64 y] wx fun e w' => e = .returned (.tuple #[]) ∧ RN w w' mb true AA ac ans (askT S' ⟨2, ob, y⟩) F := fun wx hb =>
              (writeR_stop (HR.out.now.next hb) hg (by omega) ob y).mono fun _ _ ⟨h1, h2⟩ => ⟨h1, HR.out.now.back hb h2⟩
            have HWr := Lib.hid hW
            clear HRun hW
            go_wp2_with fail
            go_region_with (first
              | (go_at_call 35; refine (HG.out _ (by first | exact bl_alloc_drew _ _ | exact bl_drewN_alloc _ _ _)).mono ?_; rintro e w' ⟨rfl, rfl⟩)
              | (go_at_call 32; refine (HWr.out _ (by first | exact bl_alloc_drew _ _ | exact bl_drewN_alloc _ _ _)).mono ?_; rintro e w' ⟨rfl, hN⟩; have HN := Lib.hid hN; clear hN))
            all_goals
              go_wp2_with fail
              go_roundw
              case rel => exact ⟨k + 1, _, by omega, by go_num, rfl, Lib.hid (.inr ⟨_, HRn.out.symm, HN.out⟩)⟩
              case measure => simp [intOf]; omega
        · rw [step5 hq] at HRun
          obtain ⟨x, hx⟩ : ∃ x, ans.getD S'.acc.length 0 = x := ⟨_, rfl⟩
          have HBx := Lib.hid (fun (wx : World) (i : Nat) (v : Value) (hv : (#[.int .u8 ok, .int .i64 oa, .int .i64 ob] : Array Value)[i]? = some v) (hb : Below (wr.alloc (.cells #[.int .u8 ok, .int .i64 oa, .int .i64 ob] 60)).heap.size (wr.alloc (.cells #[.int .u8 ok, .int .i64 oa, .int .i64 ob] 60)) wx) =>
            (has_new wr #[.int .u8 ok, .int .i64 oa, .int .i64 ob] 60 i v hv).below hb (has_new wr #[.int .u8 ok, .int .i64 oa, .int .i64 ob] 60 i v hv).lt)
          have HL := Lib.hid HR.out.loc
          by_cases hg : S'.acc.length < ans.length
          · obtain ⟨y, hy⟩ : ∃ y, getL (setL S'.loc ob x) ob = y := ⟨_, rfl⟩
            have h2 := (asks_go hg _ _).symm.trans HRun.out
            rw [hx] at h2
            have h3 : runA ans (L.drop (k + 1)) (setT (askT S' ⟨1, oa, 0⟩) ob x) (addW sum y) = R := by rw [← hy]; exact h2
            have hloc := setL_len S'.loc ob x HR.out.loc
            have HFin := Lib.hid (fun (wx w' : World) (hb : Below wr.heap.size wr wx) (h : RN wx w' mb false AA ac ans (setT (askT S' ⟨1, oa, 0⟩) ob x) (Tight w wr F)) =>
              And.intro (HR.out.next hb h h3 (by simp [setT, askT]; omega) (by simp [setT, askT]) hloc) (show Calls Try.prog 35 #[.pointer (some ⟨mb, 0, none⟩), .int .i64 ob] w' fun e w'' => e = .returned (.int .i64 y) ∧ w' = w'' from getR_is h.at_ ob y hy))
            have hW : ∀ wx, Below wr.heap.size wr wx → Calls Try.prog 31 #[.pointer (some ⟨mb, 0, none⟩), .int .i64 oa] wx fun e w' => e = .returned (.int .i64 x) ∧ RN wx w' mb false AA ac ans (askT S' ⟨1, oa, 0⟩) (Tight w wr F) := fun wx hb =>
              readR_go (HR.out.now.next hb) hg (by omega) oa x hx
            have HRd := Lib.hid hW
            clear HRun hW h2 h3 hx hy hloc
            go_wp2_with fail
            go_region_with (first
              | (go_at_call 31; refine (HRd.out _ (by first | exact bl_alloc_drew _ _ | exact bl_drewN_alloc _ _ _)).mono ?_; rintro e w1 ⟨rfl, hN⟩; have b1 := (hN.box (HBx.out _ 1 _ rfl (by first | exact (Below.refl _ _).drew | exact bl_drewN _ _)) rfl); have b2 := (hN.box (HBx.out _ 2 _ rfl (by first | exact (Below.refl _ _).drew | exact bl_drewN _ _)) rfl); have c1 := b1.1; have c2 := b2.1; have HN1 := Lib.hid hN; have HSt := Lib.hid (setR_is (hN.next (Below.refl _ _)) HL.out ob x); have HB2 := Lib.hid b2; clear hN b1 b2)
              | (go_at_call 33; refine HSt.out.mono ?_; rintro e w2 ⟨rfl, hN⟩; have hN2 := HN1.out.back (Below.refl _ _) hN; obtain ⟨hHe, hGe⟩ := HFin.out _ _ (by first | exact bl_alloc_drew _ _ | exact bl_drewN_alloc _ _ _) hN2; have HHe := Lib.hid hHe; have HGe := Lib.hid hGe; have b3 := (hN2.box (HBx.out _ 2 _ rfl (by first | exact (Below.refl _ _).drew | exact bl_drewN _ _)) rfl).1; clear hN hN2 hHe hGe))
            all_goals
              go_wp2_with fail
              refine HGe.out.mono ?_; rintro e w3 ⟨rfl, rfl⟩
              go_wp2_with fail
              go_roundw
              case rel => exact ⟨k + 1, _, by omega, by go_num, rfl, Lib.hid (.inl ⟨_, HHe.out⟩)⟩
              case measure => simp [intOf]; omega
          · obtain ⟨y, hy⟩ : ∃ y, getL S'.loc ob = y := ⟨_, rfl⟩
            have HRn := Lib.hid ((asks_stop hg _ _).symm.trans HRun.out)
            have HFin := Lib.hid (fun (wx w' : World) (hb : Below wr.heap.size wr wx) (h : RN wx w' mb true AA ac ans (askT S' ⟨1, oa, 0⟩) (Tight w wr F)) =>
              And.intro (HR.out.now.back hb h) (show Calls Try.prog 35 #[.pointer (some ⟨mb, 0, none⟩), .int .i64 ob] w' fun e w'' => e = .returned (.int .i64 y) ∧ w' = w'' from getR_is h.at_ ob y hy))
            have hW : ∀ wx, Below wr.heap.size wr wx → Calls Try.prog 31 #[.pointer (some ⟨mb, 0, none⟩), .int .i64 oa] wx fun e w' => e = .returned (.int .i64 0) ∧ RN wx w' mb true AA ac ans (askT S' ⟨1, oa, 0⟩) (Tight w wr F) := fun wx hb =>
              readR_stop (HR.out.now.next hb) hg (by omega) oa
            have HRd := Lib.hid hW
            clear HRun hW hx hy
            go_wp2_with fail
            go_region_with (first
              | (go_at_call 31; refine (HRd.out _ (by first | exact bl_alloc_drew _ _ | exact bl_drewN_alloc _ _ _)).mono ?_; rintro e w1 ⟨rfl, hN⟩; have b1 := (hN.box (HBx.out _ 1 _ rfl (by first | exact (Below.refl _ _).drew | exact bl_drewN _ _)) rfl); have b2 := (hN.box (HBx.out _ 2 _ rfl (by first | exact (Below.refl _ _).drew | exact bl_drewN _ _)) rfl); have c1 := b1.1; have c2 := b2.1; have HN1 := Lib.hid hN; have HSt := Lib.hid (setR_over (hN.next (Below.refl _ _)) ob 0); have HB2 := Lib.hid b2; clear hN b1 b2)
              | (go_at_call 33; refine HSt.out.mono ?_; rintro e w2 ⟨rfl, hN⟩; have hN2 := HN1.out.back (Below.refl _ _) hN; obtain ⟨hHe, hGe⟩ := HFin.out _ _ (by first | exact bl_alloc_drew _ _ | exact bl_drewN_alloc _ _ _) hN2; have HHe := Lib.hid hHe; have HGe := Lib.hid hGe; have b3 := (hN2.box (HBx.out _ 2 _ rfl (by first | exact (Below.refl _ _).drew | exact bl_drewN _ _)) rfl).1; clear hN hN2 hHe hGe))
            all_goals
              go_wp2_with fail
              refine HGe.out.mono ?_; rintro e w3 ⟨rfl, rfl⟩
              go_wp2_with fail
              go_roundw
              case rel => exact ⟨k + 1, _, by omega, by go_num, rfl, Lib.hid (.inr ⟨_, HRn.out.symm, HHe.out⟩)⟩
              case measure => simp [intOf]; omega
      · obtain rfl : k = L.length := by omega
        have hE := HR.out.run
        rw [List.drop_length] at hE
        have hE2 : valR R = sum ∧ RN w wr mb (overR R) AA ac ans R.st F := by
          rw [← hE]; exact ⟨rfl, HR.out.now⟩
        have HE := Lib.hid hE2
        clear hE hE2
        go_wp2_with fail
        go_ret
        rw [HE.out.1]
        exact ⟨rfl, HE.out.2⟩
    · have hov := hN.at_.c2.1
      have HE := Lib.hid (show 0 = valR R ∧ RN w wr mb (overR R) AA ac ans R.st F by rw [hRT]; exact ⟨rfl, hN⟩)
      clear hRT hN
      by_cases hlt : k < L.length
      · go_wp2_with fail
        go_ret
        rw [← HE.out.1]
        exact ⟨rfl, HE.out.2⟩
      · go_wp2_with fail
        go_ret
        rw [← HE.out.1]
        exact ⟨rfl, HE.out.2⟩
end
end Go.Proofs.Ythpdfmjcchcijaa
