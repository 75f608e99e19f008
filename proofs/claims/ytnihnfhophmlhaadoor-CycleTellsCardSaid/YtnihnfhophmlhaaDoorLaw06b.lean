/- The laws of layer 6: their walks, two. Own work. -/
import Derived.Test.YtnihnfhophmlhaaDoorLaw06
namespace Go.Proofs.YtnihnfhophmlhaaDoor
open Go.ChangeShapes Go.WideShapes Go.ChangeAt Go.RowKit Cyc

theorem parse_at (s : List UInt8) (w : World) (ht : s.length ≤ maxLen) (b : Bool) (hb : okP s = b) (z : Int) (hz : (if b then 0 else 3) = z) (l : List Int) (hl : valP s = l) (n : Nat) (hn : l.length = n) :
    Calls Tryd.prog 19 #[.string ⟨s.toArray⟩] w fun e w' => ∃ A c, e = .returned (.tuple #[.slice A n c, .int .i64 z]) ∧ RI w' A c l ∧ Below w.heap.size w w' := by
  subst hb; subst hl; subst hn; subst hz
  exact (parse_is s w ht).mono fun _ _ ⟨A, c, h, hr, hb⟩ => ⟨A, c, h, hr, hb⟩
theorem parseR_at (s : List UInt8) (w : World) (ht : s.length ≤ maxLen) (b : Bool) (hb : okP s = b) (l : List Int) (hl : valP s = l) (n : Nat) (hn : l.length = n) :
    Calls Tryd.prog 20 #[.string ⟨s.toArray⟩] w fun e w' => ∃ A c, e = .returned (.tuple #[.slice A n c, .bool b]) ∧ RI w' A c l ∧ Below w.heap.size w w' := by
  subst hb; subst hl; subst hn
  exact (parseR_is s w ht).mono fun _ _ ⟨A, c, h, hr, hb⟩ => ⟨A, c, h, hr, hb⟩
set_option maxHeartbeats 4000000 in
theorem parses_walk (s : List UInt8) (hs : s.length ≤ maxLen) (A : Option Addr) (c p : Nat) (a : List Int) (ha : a.length = p) (w : World) (ht : Ring w) (hr : RI w A c a) :
    Calls Tryd.prog 4 #[.string ⟨s.toArray⟩, .slice A p c] w fun e w' => e = .returned (.bool true) ∧ Below w.heap.size w w' := by
  have h1 := hr.max
  rw [ha] at h1
  have HS := Lib.hid hs
  unfold maxLen at h1 hs
  have HA := Lib.hid ha; clear ha
  have R := Lib.hid hr; clear hr
  have T0 := Lib.hid ht; clear ht
  by_cases hq : 100 < s.length
  · have hq' : (100 : Int) < s.length := by omega
    go_enter Tryd.func4, Tryd.ntmps4
    go_wp2_with fail
    refine (alive_is _ T0.out).mono ?_; rintro e w1 ⟨rfl, hb⟩
    go_wp2_with fail
    go_ret
    exact ⟨rfl, hb⟩
  · by_cases hp : 40 < p
    · have hp' : (40 : Int) < p := by omega
      have hq' : (s.length : Int) ≤ 100 := by omega
      go_enter Tryd.func4, Tryd.ntmps4
      go_wp2_with fail
      refine (alive_is _ T0.out).mono ?_; rintro e w1 ⟨rfl, hb⟩
      go_wp2_with fail
      go_ret
      exact ⟨rfl, hb⟩
    · have hp' : (p : Int) ≤ 40 := by omega
      have hq' : (s.length : Int) ≤ 100 := by omega
      obtain ⟨l, hl⟩ : ∃ l, valP s = l := ⟨_, rfl⟩
      obtain ⟨n, hn⟩ : ∃ n, l.length = n := ⟨_, rfl⟩
      obtain ⟨T, hT⟩ : ∃ T, textL a = T := ⟨_, rfl⟩
      obtain ⟨l2, hl2⟩ : ∃ l, valP T = l := ⟨_, rfl⟩
      obtain ⟨n2, hn2⟩ : ∃ n, l2.length = n := ⟨_, rfl⟩
      have hTl : T.length ≤ maxLen := by have := textL_len a; rw [hT] at this; unfold maxLen; omega
      have hok : okP T = fineL a := by rw [← hT, ok_text]
      have hva : fineL a = true → l2 = a := fun h => by rw [← hl2, ← hT, val_text h]
      have HL := Lib.hid hl; clear hl
      have HN := Lib.hid hn; clear hn
      have HT := Lib.hid hT; clear hT
      have HL2 := Lib.hid hl2; clear hl2
      have HN2 := Lib.hid hn2; clear hn2
      have HTL := Lib.hid hTl; clear hTl
      have OK2 := Lib.hid hok; clear hok
      have VA := Lib.hid hva; clear hva
      clear hp hq
      cases hb : okP s
      all_goals
        cases hf : fineL a
        all_goals
          have HB := Lib.hid hb; clear hb
          have HF := Lib.hid hf; clear hf
          have OKT := Lib.hid (OK2.out.trans HF.out)
          go_enter Tryd.func4, Tryd.ntmps4
          go_wp2_with fail
          refine (parse_at s _ HS.out _ HB.out _ rfl l HL.out n HN.out).mono ?_; rintro e w1 ⟨A1, c1, rfl, hr1, hb1⟩
          have B1 := Lib.hid hb1
          have R1 := Lib.hid hr1
          have RA1 := Lib.hid (R.out.below hb1)
          clear hb1 hr1
          go_wp2_with fail
          refine (parseR_at s _ HS.out _ HB.out l HL.out n HN.out).mono ?_; rintro e w2 ⟨A2, c2, rfl, hr2, hb2⟩
          have B2 := Lib.hid (B1.out.trans (hb2.mono B1.out.size))
          have R2 := Lib.hid hr2
          have R12 := Lib.hid (R1.out.below hb2)
          have RA2 := Lib.hid (RA1.out.below hb2)
          clear hb2 hr2
          go_wp2_with fail
          refine (ints_is _ _ _ _ _ _ l l HN.out HN.out _ R12.out R2.out true (by simp)).mono ?_; rintro e w3 ⟨rfl, nd, rfl⟩
          go_wp2_with fail
          refine (text_is _ _ _ a HA.out _ (RA2.out.drewN nd) T HT.out).mono ?_; rintro e w4 ⟨rfl, hb4⟩
          have B4 := Lib.hid ((below_drewN B2.out nd).trans (hb4.mono B2.out.size))
          have RA4 := Lib.hid ((RA2.out.drewN nd).below hb4)
          clear hb4
          go_wp2_with fail
          refine (parse_at T _ HTL.out _ OKT.out _ rfl l2 HL2.out n2 HN2.out).mono ?_; rintro e w5 ⟨A5, c5, rfl, hr5, hb5⟩
          have B5 := Lib.hid (B4.out.trans (hb5.mono B4.out.size))
          have R5 := Lib.hid hr5
          have RA5 := Lib.hid (RA4.out.below hb5)
          have T5 := Lib.hid (T0.out.below B5.out)
          clear hb5 hr5
          go_wp2_with fail
          refine (fineR_is _ _ _ a HA.out _ RA5.out _ HF.out).mono ?_; rintro e w' ⟨rfl, rfl⟩
          go_wp2_with fail
          first
            | (refine (ints_is _ _ _ _ _ _ l2 a HN2.out HA.out _ R5.out RA5.out true (by rw [VA.out HF.out]; simp)).mono ?_; rintro e w6 ⟨rfl, nd2, rfl⟩
               go_wp2_with fail
               refine (alive_is _ (T5.out.drewN nd2)).mono ?_; rintro e w7 ⟨rfl, hb7⟩
               go_wp2_with fail
               go_ret
               exact ⟨rfl, (below_drewN B5.out nd2).trans (hb7.mono B5.out.size)⟩)
            | (refine (alive_is _ T5.out).mono ?_; rintro e w7 ⟨rfl, hb7⟩
               go_wp2_with fail
               go_ret
               exact ⟨rfl, B5.out.trans (hb7.mono B5.out.size)⟩)
end Go.Proofs.YtnihnfhophmlhaaDoor
