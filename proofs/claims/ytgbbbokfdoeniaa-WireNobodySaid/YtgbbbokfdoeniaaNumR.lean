/- Reading a number: the reference's way. Own work. -/
import Derived.Test.YtgbbbokfdoeniaaNum
namespace Go.Proofs.Ytgbbbokfdoeniaa
open Go.ChangeShapes Go.WideShapes Go.ChangeAt Go.RowKit Wire

/-- The reference's Reader, over bytes in blocks below B. -/
def QAt (w : World) (B g : Nat) (s : List UInt8) (e : Int) : Prop :=
  ∃ A c, Blk w g 34 #[.slice A s.length c, .int .i64 e] ∧ BR w B A c s ∧ B ≤ g ∧ (e ≠ 0 → s = [])
theorem QAt.grown {w w' : World} {B g g' : Nat} {s : List UInt8} {e : Int} (h : QAt w B g s e) (hg : w.grownBy w' (some g')) (hB : B ≤ g') (hne : g ≠ g') : QAt w' B g s e := by
  obtain ⟨A, c, hb, hr, hl, hi⟩ := h
  exact ⟨A, c, hb.grown hg (by simpa using hne), hr.grown hg hB, hl, hi⟩
theorem RAt.grown {w w' : World} {g g' : Nat} {s : List UInt8} {e : Int} (h : RAt w g s e) (hg : w.grownBy w' (some g')) (hB : g < g') : RAt w' g s e := by
  obtain ⟨A, c, hb, hr, hi⟩ := h
  exact ⟨A, c, hb.grown hg (by simp; omega), hr.grown hg (by omega), hi⟩
theorem failR_any (B g : Nat) (s : List UInt8) (e e2 : Int) (w : World) (h : QAt w B g s e) :
    Calls Try.prog 13 #[.pointer (some ⟨g, 0, none⟩), .int .i64 e2] w fun r w' => r = .returned (.tuple #[]) ∧ QAt w' B g (failS s e e2).1 (failS s e e2).2 ∧ w.grownBy w' (some g) := by
  obtain ⟨A, c, hb, hr, hl, hi⟩ := id h
  have c1 : w.cell? ⟨g, 1, none⟩ = some (.int .i64 e) := hb.cell 1
  have f1 := hb.free 1
  have c0 : w.cell? ⟨g, 0, none⟩ = some (.slice A s.length c) := hb.cell 0
  have f0 := hb.free 0
  by_cases he : e = 0
  · by_cases h2 : e2 = 0
    · subst he
      subst h2
      rw [failS_zero]
      have H := Lib.hid h
      clear h hb hr hl hi
      go_enter Try.func13, Try.ntmps13
      go_wp2_with fail
      go_end0
      exact ⟨rfl, H.out, grown_refl _ _⟩
    · subst he
      have hd : (e2 != 0) = true := by simp; exact h2
      rw [failS_some s 0 h2, firstE_zero]
      have HB := Lib.hid hb
      have HR := Lib.hid hr
      have HL := Lib.hid hl
      have H2 := Lib.hid h2
      clear h hb hr hl hi h2
      go_enter Try.func13, Try.ntmps13
      go_wp2_with fail
      go_end0
      exact ⟨rfl, ⟨none, 0, (HB.out.put 1 _).put 0 _, BR.nil _ _, HL.out, fun _ => rfl⟩, grown_trans (grown_put _ _ _ _) (grown_put _ _ _ _)⟩
  · have hs := hi he
    subst hs
    have hd := eq_false_of_ne he
    have e0 : failS [] e e2 = ([], e) := by
      by_cases h2 : e2 = 0
      · subst h2; rfl
      · rw [failS_some _ _ h2, firstE_err he]
    rw [e0]
    have H := Lib.hid h
    have HE := Lib.hid he
    clear h hb hr hl hi e0 he
    go_enter Try.func13, Try.ntmps13
    go_wp2_with fail
    go_end0
    exact ⟨rfl, H.out, grown_refl _ _⟩
theorem failR_at (B g : Nat) (s : List UInt8) (e2 : Int) (h2 : e2 ≠ 0) (w : World) (h : QAt w B g s 0) :
    Calls Try.prog 13 #[.pointer (some ⟨g, 0, none⟩), .int .i64 e2] w fun r w' => r = .returned (.tuple #[]) ∧ QAt w' B g [] e2 ∧ w.grownBy w' (some g) := by
  have := failR_any B g s 0 e2 w h
  rwa [failS_some s 0 h2, firstE_zero] at this

/-- r.B = r.B[k:] -/
theorem cut_put {w : World} {B g c k : Nat} {A : Option Addr} {s : List UInt8} (hb : Blk w g 34 #[.slice A s.length c, .int .i64 0]) (hr : BR w B A c s) (hl : B ≤ g) (hk : k ≤ s.length) (hk0 : 0 < k)
    {A' : Option Addr} {c' : Nat} (h : (c = k ∧ A' = A ∧ c' = 0) ∨ (c ≠ k ∧ A' = A.map (fun ad => { block := ad.block, off := ad.off + k, spot := none }) ∧ c' = c - k)) :
    QAt (w.setCell ⟨g, 0, none⟩ (.slice A' (s.length - k) c')) B g (s.drop k) 0 := by
  have hcut := hr.cut hk
  have hlen := List.length_drop (l := s) (i := k)
  refine ⟨A', c', by rw [hlen]; exact hb.put 0 _, ?_, hl, fun e => absurd rfl e⟩
  rcases h with ⟨h1, rfl, rfl⟩ | ⟨h1, rfl, rfl⟩
  · rw [if_pos h1, show c - k = 0 by omega] at hcut
    exact hcut.grown (grown_put _ _ _ _) hl
  · rw [if_neg h1, Nat.mul_one, show (fun ad : Addr => ad.add k) = (fun ad => { block := ad.block, off := ad.off + k, spot := none }) from funext fun ad => by unfold Addr.add; rw [if_neg (by omega)]] at hcut
    exact hcut.grown (grown_put _ _ _ _) hl
theorem mul_eq {k m x : Nat} (hk : k ≤ 4) (hm : m < 128 ^ k) (hx : x < 256) : wrap64 ((m : Int) + wrap64 (((128 ^ k : Nat) : Int) * (x : Int))) = ((m + x * 128 ^ k : Nat) : Int) := by
  have hp : 128 ^ k ≤ 268435456 := Nat.pow_le_pow_right (n := 128) (by decide) hk
  have hb : x * 128 ^ k ≤ 255 * 128 ^ k := Nat.mul_le_mul_right _ (by omega)
  have e2 : ((128 ^ k : Nat) : Int) * (x : Int) = ((x * 128 ^ k : Nat) : Int) := by rw [Int.natCast_mul, Int.mul_comm]
  rw [e2]
  generalize x * 128 ^ k = y at *
  generalize 128 ^ k = z at *
  unfold wrap64
  omega
set_option maxHeartbeats 4000000 in
theorem last_any (B g : Nat) (s : List UInt8) (most : Int) (k m p : Nat) (hk : k < s.length) (hx : s[k].toNat < 128) (hk5 : k ≤ 4) (hm : m < 128 ^ k) (hp : p = 128 ^ k)
    (hf : frontL 0 0 s = frontL k m (s.drop k)) (n : Nat) (s' : List UInt8) (e' : Int) (hn : numS s 0 most = (n, s', e')) (w : World) (h : QAt w B g s 0) :
    Calls Try.prog 23 #[.pointer (some ⟨g, 0, none⟩), .int .i64 k, .int .i64 m, .int .i64 p, .int .i64 most] w fun r w' => r = .returned (.int .i64 n) ∧ QAt w' B g s' e' ∧ w.grownBy w' (some g) := by
  obtain ⟨A, c, hb, hr, hl, hi⟩ := id h
  have c0 : w.cell? ⟨g, 0, none⟩ = some (.slice A s.length c) := hb.cell 0
  have f0 := hb.free 0
  obtain ⟨ad, rfl, hadB, hc⟩ := hr.2.2.2 k hk
  rw [drop_cons s hk] at hf
  obtain ⟨x, hxx⟩ : ∃ x, x = s[k] := ⟨_, rfl⟩
  rw [← hxx] at hx hc hf
  clear hxx
  have hkc : (k : Int) < s.length := by omega
  have hk1 : (k : Int) + 1 ≤ s.length := by omega
  by_cases hz : x.toNat = 0 ∧ 0 < k
  · rw [front_zero (by omega) hz.1 hz.2] at hf
    rw [numS_bad hf (by decide)] at hn
    cases hn
    obtain ⟨hz1, hz2⟩ := hz
    have g0 : ((x.toNat : Int) == 0) = true := by simp; omega
    have g1 : decide ((0 : Int) < (k : Int)) = true := by simp; omega
    have H := Lib.hid h
    have HZ := Lib.hid hz1
    have HP := Lib.hid hp
    clear h hb hr hl hi hf hz1 hp
    go_enter Try.func23, Try.ntmps23
    go_wp2_with fail
    refine (failR_at B g s 3 (by decide) w H.out).mono ?_; rintro r w1 ⟨rfl, hq, hg⟩
    have HQ := Lib.hid hq
    have HG := Lib.hid hg
    clear hq hg
    go_wp2_with fail
    go_ret
    exact ⟨rfl, HQ.out, HG.out⟩
  · rw [front_last (by omega) (by omega) hz] at hf
    obtain ⟨v, hv⟩ : ∃ v, v = m + x.toNat * 128 ^ k := ⟨_, rfl⟩
    rw [← hv] at hf
    have hmul := mul_eq hk5 hm (show x.toNat < 256 by omega)
    rw [← hv, ← hp] at hmul
    have HM := Lib.hid hmul
    have H := Lib.hid h
    have HP := Lib.hid hp
    have HV := Lib.hid hv
    have HF := Lib.hid hf
    have HN := Lib.hid hn
    have HB := Lib.hid hb
    have HR := Lib.hid hr
    have HL := Lib.hid hl
    have two : ((x.toNat : Int) == 0) = true ∧ (decide ((0 : Int) < (k : Int)) = false ∧ ¬ 0 < k) ∨ ((x.toNat : Int) == 0) = false := by
      by_cases hx0 : x.toNat = 0
      · left; refine ⟨by simp; omega, by simp; omega, by omega⟩
      · right; simp; omega
    have hcap := HR.out.1
    clear h hb hr hl hi hf hp hv hz hn
    have three : decide (most < (v : Int)) = true ∧ min most 1073741823 < (v : Int) ∨ (decide (most < (v : Int)) = false ∧ decide (1073741823 < (v : Int)) = true) ∧ min most 1073741823 < (v : Int) ∨
        (decide (most < (v : Int)) = false ∧ decide (1073741823 < (v : Int)) = false) ∧ ¬ min most 1073741823 < (v : Int) := by
      by_cases h1 : most < (v : Int)
      · left; exact ⟨by simp; omega, by omega⟩
      · by_cases h2 : 1073741823 < (v : Int)
        · right; left; exact ⟨⟨by simp; omega, by simp; omega⟩, by omega⟩
        · right; right; exact ⟨⟨by simp; omega, by simp; omega⟩, by omega⟩
    have hsk : k + 1 ≤ s.length := hk
    by_cases hcc : c = k + 1
    · have hQ := cut_put HB.out HR.out HL.out hsk (Nat.succ_pos k) (.inl ⟨hcc, rfl, rfl⟩)
      have HQ := Lib.hid hQ; clear hQ
      rcases three with ⟨r1, r3⟩ | ⟨⟨r1, r2⟩, r3⟩ | ⟨⟨r1, r2⟩, r3⟩
      · have hn := HN.out
        rw [numS_range HF.out r3] at hn
        cases hn
        clear r3
        rcases two with ⟨g0, g1, g2⟩ | g0
        all_goals
          go_enter Try.func23, Try.ntmps23
          go_wp2_with fail
          (with_reducible refine (failR_at B g _ 6 (by decide) _ HQ.out).mono ?_); rintro r w1 ⟨rfl, hq, hg⟩
          have HQ1 := Lib.hid hq
          have HG := Lib.hid hg
          clear hq hg
          go_wp2_with fail
          go_ret
          exact ⟨rfl, HQ1.out, grown_trans (grown_put _ _ _ _) HG.out⟩
      · have hn := HN.out
        rw [numS_range HF.out r3] at hn
        cases hn
        clear r3
        rcases two with ⟨g0, g1, g2⟩ | g0
        all_goals
          go_enter Try.func23, Try.ntmps23
          go_wp2_with fail
          (with_reducible refine (failR_at B g _ 6 (by decide) _ HQ.out).mono ?_); rintro r w1 ⟨rfl, hq, hg⟩
          have HQ1 := Lib.hid hq
          have HG := Lib.hid hg
          clear hq hg
          go_wp2_with fail
          go_ret
          exact ⟨rfl, HQ1.out, grown_trans (grown_put _ _ _ _) HG.out⟩
      · have hn := HN.out
        rw [numS_ok HF.out r3] at hn
        cases hn
        clear r3
        rcases two with ⟨g0, g1, g2⟩ | g0
        all_goals
          go_enter Try.func23, Try.ntmps23
          go_wp2_with fail
          go_ret
          first | exact ⟨rfl, HQ.out, grown_put _ _ _ _⟩ | exact ⟨ret_int HM.out, HQ.out, grown_put _ _ _ _⟩
    · have hQ := cut_put (A' := some { block := ad.block, off := ad.off + (k + 1), spot := none }) HB.out HR.out HL.out hsk (Nat.succ_pos k) (.inr ⟨hcc, rfl, rfl⟩)
      have HQ := Lib.hid hQ; clear hQ
      rcases three with ⟨r1, r3⟩ | ⟨⟨r1, r2⟩, r3⟩ | ⟨⟨r1, r2⟩, r3⟩
      · have hn := HN.out
        rw [numS_range HF.out r3] at hn
        cases hn
        clear r3
        rcases two with ⟨g0, g1, g2⟩ | g0
        all_goals
          go_enter Try.func23, Try.ntmps23
          go_wp2_with fail
          (with_reducible refine (failR_at B g _ 6 (by decide) _ HQ.out).mono ?_); rintro r w1 ⟨rfl, hq, hg⟩
          have HQ1 := Lib.hid hq
          have HG := Lib.hid hg
          clear hq hg
          go_wp2_with fail
          go_ret
          exact ⟨rfl, HQ1.out, grown_trans (grown_put _ _ _ _) HG.out⟩
      · have hn := HN.out
        rw [numS_range HF.out r3] at hn
        cases hn
        clear r3
        rcases two with ⟨g0, g1, g2⟩ | g0
        all_goals
          go_enter Try.func23, Try.ntmps23
          go_wp2_with fail
          (with_reducible refine (failR_at B g _ 6 (by decide) _ HQ.out).mono ?_); rintro r w1 ⟨rfl, hq, hg⟩
          have HQ1 := Lib.hid hq
          have HG := Lib.hid hg
          clear hq hg
          go_wp2_with fail
          go_ret
          exact ⟨rfl, HQ1.out, grown_trans (grown_put _ _ _ _) HG.out⟩
      · have hn := HN.out
        rw [numS_ok HF.out r3] at hn
        cases hn
        clear r3
        rcases two with ⟨g0, g1, g2⟩ | g0
        all_goals
          go_enter Try.func23, Try.ntmps23
          go_wp2_with fail
          go_ret
          first | exact ⟨rfl, HQ.out, grown_put _ _ _ _⟩ | exact ⟨ret_int HM.out, HQ.out, grown_put _ _ _ _⟩

theorem pow_pos' (k : Nat) : 0 < 128 ^ k := Nat.pow_pos (by decide)
/-- 128 to the k. -/
def P128 (k : Nat) : Nat := 128 ^ k
theorem P128_succ {k : Nat} (h : k ≤ 4) : wrap64 (128 * ((P128 k : Nat) : Int)) = ((P128 (k + 1) : Nat) : Int) := by
  have hp : P128 k ≤ 268435456 := Nat.pow_le_pow_right (n := 128) (by decide) h
  have e : P128 (k + 1) = P128 k * 128 := Nat.pow_succ _ _
  rw [e]
  unfold wrap64
  omega
theorem acc_sub {k m x : Nat} (hk : k ≤ 4) (hm : m < 128 ^ k) (h0 : 128 ≤ x) (h1 : x < 256) : wrap64 ((m : Int) + wrap64 (((P128 k : Nat) : Int) * ((x : Int) - 128))) = ((m + (x - 128) * 128 ^ k : Nat) : Int) := by
  have := mul_eq (x := x - 128) hk hm (by omega)
  rw [show ((x - 128 : Nat) : Int) = (x : Int) - 128 by omega] at this
  exact this
set_option maxHeartbeats 4000000 in
theorem numR_any (B g : Nat) (s : List UInt8) (e most : Int) (n : Nat) (s' : List UInt8) (e' : Int) (hn : numS s e most = (n, s', e')) (w : World) (h : QAt w B g s e) :
    Calls Try.prog 15 #[.pointer (some ⟨g, 0, none⟩), .int .i64 most] w fun r w' => r = .returned (.int .i64 n) ∧ QAt w' B g s' e' ∧ w.grownBy w' (some g) := by
  obtain ⟨A, c, hb, hr, hl, hi⟩ := id h
  have c1 : w.cell? ⟨g, 1, none⟩ = some (.int .i64 e) := hb.cell 1
  have c0 : w.cell? ⟨g, 0, none⟩ = some (.slice A s.length c) := hb.cell 0
  by_cases he : e = 0
  · subst he
    have H := Lib.hid h
    have HR := Lib.hid hr
    have HN := Lib.hid hn
    have hm0 := hr.max
    unfold maxLen at hm0
    clear h hb hr hl hi hn
    go_enter Try.func15, Try.ntmps15
    go_wp2_with fail
    go_loop [5, 6, 7, 8] (fun a p i x => ∃ k m : Nat, k ≤ s.length ∧ k ≤ 5 ∧ m < 128 ^ k ∧ a = .int .i64 m ∧ p = .int .i64 (P128 k : Nat) ∧ i = .int .i64 k ∧ Hid (frontL 0 0 s = frontL k m (s.drop k))) (fun _ _ i _ => 5 - (intOf i).toNat)
    case atStart => exact ⟨0, 0, Nat.zero_le _, by omega, by decide, rfl, rfl, rfl, by simp [Hid]⟩
    case round =>
      obtain ⟨k, m, hk, hk5, hmk, rfl, rfl, rfl, hE⟩ := hrel
      by_cases h5 : k < 5
      · by_cases hlt : k < s.length
        · obtain ⟨ad, rfl, _, hc⟩ := HR.out.2.2.2 k hlt
          have hlt' : (k : Int) < s.length := by omega
          obtain ⟨x, hxx⟩ : ∃ x, x = s[k] := ⟨_, rfl⟩
          have hE' := hE.out
          rw [drop_cons s hlt] at hE'
          rw [← hxx] at hc hE'
          have HX := Lib.hid hxx; clear hxx
          have hx := x.toNat_lt
          have t5 : decide ((k : Int) < 5) = true := by simp; omega
          have tl : decide (s.length ≤ k) = false := by simp; omega
          by_cases hm : 128 ≤ x.toNat
          · rw [front_more (by omega) hm] at hE'
            have E := Lib.hid hE'; clear hE' hE
            have hsum := acc_sub (k := k) (by omega) hmk hm hx
            have hp := P128_succ (k := k) (by omega)
            have hd : decide ((x.toNat : Int) < 128) = false := by simp; omega
            have HS := Lib.hid hsum; clear hsum
            have HP := Lib.hid hp; clear hp
            go_wp2_with fail
            go_round
            case rel => exact ⟨k + 1, _, by omega, by omega, acc_lt hmk hm hx, by rw [HS.out], by rw [HP.out], by go_num, E⟩
            case measure => simp [intOf]; omega
          · have hd : decide ((x.toNat : Int) < 128) = true := by simp; omega
            have hlast := fun w' (hq : QAt w' B g s 0) => last_any B g s most k m (P128 k) hlt (by rw [← HX.out]; omega) (by omega) hmk rfl hE.out n s' e' HN.out w' hq
            have HLst := Lib.hid hlast; clear hlast
            clear hE'
            go_wp2_with fail
            refine (HLst.out _ H.out).mono ?_; rintro r w1 ⟨rfl, hq, hg⟩
            have HQ := Lib.hid hq
            have HG := Lib.hid hg
            clear hq hg
            go_wp2_with fail
            go_ret
            exact ⟨rfl, HQ.out, HG.out⟩
        · obtain rfl : k = s.length := by omega
          have hf := hE.out
          rw [List.drop_length, front_nil] at hf
          have hn := HN.out
          rw [numS_bad hf (by decide)] at hn
          cases hn
          clear hf
          go_wp2_with fail
          refine (failR_at B g s 4 (by decide) w H.out).mono ?_; rintro r w1 ⟨rfl, hq, hg⟩
          have HQ := Lib.hid hq
          have HG := Lib.hid hg
          clear hq hg
          go_wp2_with fail
          go_ret
          exact ⟨rfl, HQ.out, HG.out⟩
      · have hk5' : k = 5 := by omega
        by_cases hlt : 5 < s.length
        · have hf := hE.out
          rw [hk5', drop_cons s (by omega), front_five] at hf
          have hn := HN.out
          rw [numS_bad hf (by decide)] at hn
          cases hn
          have hd : decide ((k : Int) < 5) = false := by simp; omega
          have hlt' : (5 : Int) < s.length := by omega
          have K5 := Lib.hid hk5'; clear hk5' hf h5
          go_wp2_with fail
          refine (failR_at B g s 3 (by decide) w H.out).mono ?_; rintro r w1 ⟨rfl, hq, hg⟩
          have HQ := Lib.hid hq
          have HG := Lib.hid hg
          clear hq hg
          go_wp2_with fail
          refine (failR_any B g [] 3 4 w1 HQ.out).mono ?_; rintro r w2 ⟨rfl, hq, hg⟩
          have HQ2 := Lib.hid hq
          have HG2 := Lib.hid hg
          clear hq hg
          go_wp2_with fail
          go_ret
          exact ⟨rfl, HQ2.out, grown_trans HG.out HG2.out⟩
        · have hf := hE.out
          have hsl : s.length = 5 := by omega
          rw [hk5', List.drop_eq_nil_of_le (by omega), front_nil] at hf
          have hn := HN.out
          rw [numS_bad hf (by decide)] at hn
          cases hn
          have hd : decide ((k : Int) < 5) = false := by simp; omega
          have hle : (s.length : Int) ≤ 5 := by omega
          have K5 := Lib.hid hk5'; clear hk5' hf h5
          have SL := Lib.hid hsl; clear hsl
          go_wp2_with fail
          refine (failR_at B g s 4 (by decide) w H.out).mono ?_; rintro r w1 ⟨rfl, hq, hg⟩
          have HQ := Lib.hid hq
          have HG := Lib.hid hg
          clear hq hg
          go_wp2_with fail
          go_ret
          exact ⟨rfl, HQ.out, HG.out⟩
  · rw [numS_err he] at hn
    cases hn
    have hd : (e != 0) = true := by simp; exact he
    have hs := hi he
    subst hs
    have H := Lib.hid h
    have HE := Lib.hid he
    clear h hb hr hl hi he
    go_enter Try.func15, Try.ntmps15
    go_wp2_with fail
    go_ret
    exact ⟨rfl, H.out, grown_refl _ _⟩
end Go.Proofs.Ytgbbbokfdoeniaa
