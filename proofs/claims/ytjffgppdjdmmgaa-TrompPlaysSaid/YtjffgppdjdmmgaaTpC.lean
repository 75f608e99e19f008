/- TrompPlays' closure: a row of writes and reads of a bit out of three. Own work. -/
import Derived.Test.YtjffgppdjdmmgaaTpW
import Derived.StillTailTactics
namespace Go.Proofs.Ytjffgppdjdmmgaa
open Go.ChangeShapes Go.WideShapes Go.ChangeAt Go.RowKit CellM TapeM

def sum3 (s y : Int) : Int := addW (Go.RowKit.wrap64 (3 * s)) y
def tpRow (b l : Int) : List Int → Int → Tr Int := rowT (rdTp b l) (fun v => wrTp b l v) sum3
theorem enterT1 (args : Array Value) (w : World) : (callFunc 8 args).run Try.prog w = .ok (.enter 8 args) w := enters Try.func8 (by kernel_rfl) rfl args w
set_option maxHeartbeats 4000000 in
theorem tpClo_is {C : Ctx} {K : Nat → Prop} {R : Res} (Al : Option Addr) (cl m : Nat) (L : List Int) (hm : L.length = m) (k b l n rw rr tp : Int) (b1 b2 : Nat) (h1 : Has C.w ⟨b1, 0, none⟩ (.slice Al m cl)) (h2 : BoxAt C.w b2 #[.int .i64 k, .int .i64 b, .int .i64 l, .int .i64 n, .int .i64 rw, .int .i64 rr, .int .i64 tp])
    (l1 : b1 < C.base) (l2 : b2 < C.base) (hnr : Near b l) (hL : ∀ w', Below C.base C.w w' → RI w' Al cl L) (H : Now C C.w K (tpRow b l L 0) R) :
    Calls Try.prog 8 #[.pointer (some ⟨C.mb, 0, none⟩), .pointer (some ⟨b1, 0, none⟩), .pointer (some ⟨b2, 0, none⟩)] C.w fun e w' => Goes C C.w w' K (Value.int .i64) Tr.ret R e := by
  subst hm
  have HB := Lib.hid (And.intro h1 (And.intro h2 (And.intro l1 l2)))
  have HL := Lib.hid hL
  have HNr := Lib.hid hnr
  have HN := Lib.hid (And.intro H (Keeps.refl K C.w))
  have hmx := (hL C.w (Below.refl _ _)).max
  unfold maxLen at hmx
  clear h1 h2 hL H l1 l2 hnr
  go_enter Try.func8, Try.ntmps8
  go_wp2_with fail
  go_loopw [5, 6] (fun s i w' => ∃ (j : Nat) (sum : Int), j ≤ L.length ∧ i = .int .i64 j ∧ s = .int .i64 sum ∧ Hid (Now C w' K (tpRow b l (L.drop j) sum) R ∧ Keeps K C.w w')) (fun _ i _ => L.length - (intOf i).toNat)
  case atStart => exact ⟨0, 0, Nat.zero_le _, rfl, rfl, HN⟩
  case round =>
    obtain ⟨j, sum, hj, rfl, rfl, HR⟩ := hrel
    have hbw : Below C.base C.w wr := HR.out.1.below
    have x1 := (HB.out.1.below hbw HB.out.2.2.1).1
    have hbx := HB.out.2.1.below hbw HB.out.2.2.2
    have y0 := (hbx 0 _ rfl).1
    have y1 := (hbx 1 _ rfl).1
    have y2 := (hbx 2 _ rfl).1
    have y3 := (hbx 3 _ rfl).1
    have y4 := (hbx 4 _ rfl).1
    have y5 := (hbx 5 _ rfl).1
    have y6 := (hbx 6 _ rfl).1
    have hri := HL.out wr hbw
    clear hbx hbw
    by_cases hlt : j < L.length
    · obtain ⟨ad, rfl, xc⟩ := hri.at_ hlt
      obtain ⟨z, hz⟩ : ∃ z, z = L[j] := ⟨_, rfl⟩
      rw [← hz] at xc
      by_cases h0 : z < 0
      · have hM := (HR.out.1.as (rowT_read hlt (by rw [← hz]; exact h0) sum)).call (rdTp_does k b l n rw rr tp HNr.out) (Below.refl _ _)
        have HM := Lib.hid hM
        have HK := Lib.hid HR.out.2
        clear hM hz HR hri
        go_wp2_with fail
        refine HM.out.mono ?_
        rintro e w' (⟨x, rfl, hN, hK⟩ | ⟨rfl, hs⟩)
        · have HG := Lib.hid (And.intro (hN.less (K := K) (fun b h => .inl h)) (HK.out.trans (hK.less (fun b h => .inl h))))
          clear hN hK HM HK
          go_wp2_with fail
          go_roundw
          case rel => exact ⟨j + 1, _, by omega, by go_num, rfl, HG⟩
          case measure => simp [intOf]; omega
        · exact ⟨rfl, .inr ⟨rfl, hs⟩⟩
      · have hM := (HR.out.1.as (rowT_write hlt (by rw [← hz]; exact h0) sum)).call (wrTp_does k b l n rw rr tp L[j] HNr.out) ((Below.refl _ _).drew)
        rw [← hz] at hM
        have HM := Lib.hid hM
        have HK := Lib.hid HR.out.2
        have hj0 : (0 : Int) ≤ (j : Int) := by omega
        have hj1 : (j : Int) < (L.length : Int) := by omega
        clear hM hz HR hri
        go_wp2_with fail
        go_still_tail 6, (by kernel_rfl)
        change wpList _ _ _ _ _ wr.drew
        go_wp2_with fail
        refine HM.out.mono ?_
        rintro e w' (⟨x, rfl, hN, hK⟩ | ⟨rfl, hs⟩)
        · have HG := Lib.hid (And.intro (hN.less (K := K) (fun b h => .inl h)) ((HK.out.trans (Keeps.below ((Below.refl _ _).drew))).trans (hK.less (fun b h => .inl h))))
          clear hN hK HM HK
          go_wp2_with fail
          go_roundw
          case rel => exact ⟨j + 1, _, by omega, by go_num, rfl, HG⟩
          case measure => simp [intOf]; omega
        · exact ⟨rfl, .inr ⟨rfl, hs⟩⟩
    · obtain rfl : j = L.length := by omega
      have hE := HR.out.1
      rw [List.drop_length] at hE
      have HG := Lib.hid (And.intro hE HR.out.2)
      clear hE HR hri
      go_wp2_with fail
      go_ret
      exact .inl ⟨sum, rfl, HG.out.1, HG.out.2⟩
end Go.Proofs.Ytjffgppdjdmmgaa
