/- Contracts of the reference of cycle, two: Dominates (which calls itself), Text, Parse. Own work. -/
import Derived.Test.YtnihnfhophmlhaaDoorCycR
namespace Go.Proofs.YtnihnfhophmlhaaDoor
open Go.ChangeShapes Go.WideShapes Go.ChangeAt Go.RowKit Cyc

theorem quiet_add {P : Program} {f : FuncId} {args : Array Value} {w : World} {a n : Nat} {v : Value}
    (h : Calls P f args (w.drewN (a + n)) fun e w' => e = .returned v ∧ ∃ m, w' = (w.drewN (a + n)).drewN m) :
    Calls P f args (w.drewN (a + n)) fun e w'' => e = .returned v ∧ ∃ m, w'' = w.drewN (a + m) :=
  h.mono fun _ _ ⟨he, m, hm⟩ => ⟨he, n + m, by rw [hm, World.drewN_drewN, Nat.add_assoc]⟩
theorem quiet_add_left {P : Program} {f : FuncId} {args : Array Value} {w : World} {a n : Nat} {v : Value}
    (h : Calls P f args (w.drewN (a + n)) fun e w' => e = .returned v ∧ w.drewN (a + n) = w') :
    Calls P f args (w.drewN (a + n)) fun e w'' => e = .returned v ∧ ∃ m, w'' = w.drewN (a + m) :=
  h.mono fun _ _ ⟨he, hm⟩ => ⟨he, n, hm.symm⟩
theorem cut1 {w : World} {A : Option Addr} {c n : Nat} {l : List Int} (h : RI w A c l) (hn : l.length = n) (h1 : 1 ≤ n) :
    ∃ A', (∀ w : World, (Instr.slice 22 (.slice A n c) (some (.int .i64 1)) none none).run Tryd.prog w = .ok (.slice A' (n - 1) (c - 1)) w) ∧ RI w A' (c - 1) (l.drop 1) := by
  subst hn
  refine ⟨if c = 1 then A else A.map (·.add (1 * 1)), fun w => ?_, h.cut h1⟩
  obtain ⟨i0, hi, hz0, hz1, hz2⟩ := info_parts infoInt
  have hu : Tryd.prog.underlying 22 = some (.slice (Tryd.prog.elem 22)) := by kernel_rfl
  have he : Tryd.prog.elem 22 = 3 := by kernel_rfl
  rw [run_slice_l w _ A l.length c hu .i64 1 (by decide) (by omega), he]
  simp [sizeOf, typeInfo, hi, hz1, sliced, Result.andThen]
theorem domL_cons {x y : Int} {a b : List Int} (ha : fineL (x :: a) = true) (hb : fineL (y :: b) = true) (h : a.length = b.length) : domL (x :: a) (y :: b) = if x = y then domL a b else beatsD x y := by
  rw [domL_of ha hb (by simp [h]), domL_of (fineL_tail ha) (fineL_tail hb) h]; rfl
set_option maxHeartbeats 800000 in
theorem domR_is : ∀ (a : List Int) (A A' : Option Addr) (c c' n m : Nat) (b : List Int) (_ : a.length = n) (_ : b.length = m) (w : World) (_ : RI w A c a) (_ : RI w A' c' b) (z : Bool) (_ : domL a b = z),
    Calls Tryd.prog 16 #[.slice A n c, .slice A' m c'] w fun e w' => e = .returned (.bool z) ∧ ∃ k, w' = w.drewN k := by
  intro a
  induction a with
  | nil =>
    intro A A' c c' n m b hn hm w hr hr' z hz
    subst hn; subst hm
    obtain rfl : z = false := by rw [← hz]; unfold domL; simp [domR]
    have h2 := hr'.max
    unfold maxLen at h2
    have R := Lib.hid hr; clear hr
    have R' := Lib.hid hr'; clear hr' hz
    cases hfb : fineL b
    all_goals
      have FB := Lib.hid hfb; clear hfb
      go_enter Tryd.func16, Tryd.ntmps16
      go_wp2_with fail
      refine (fineR_is A c _ [] rfl _ R.out true rfl).mono ?_; rintro e w' ⟨rfl, rfl⟩
      go_wp2_with fail
      refine (fineR_is A' c' _ b rfl _ R'.out _ FB.out).mono ?_; rintro e w' ⟨rfl, rfl⟩
      go_wp2_with fail
      all_goals go_ret
      all_goals exact ⟨rfl, 0, rfl⟩
  | cons x a ih =>
    intro A A' c c' n m b hn hm w hr hr' z hz
    have hx : n = a.length + 1 := by rw [← hn]; rfl
    have h1 := hr.max
    have h2 := hr'.max
    rw [hn] at h1
    rw [hm] at h2
    unfold maxLen at h1 h2
    have R := Lib.hid hr; clear hr
    have R' := Lib.hid hr'; clear hr'
    have HN := Lib.hid hn; clear hn
    have HM := Lib.hid hm; clear hm
    cases hfa : fineL (x :: a)
    · obtain rfl : z = false := by rw [← hz, domL_no1 hfa]
      have FA := Lib.hid hfa; clear hfa hz hx
      go_enter Tryd.func16, Tryd.ntmps16
      go_wp2_with fail
      refine (fineR_is A c _ _ HN.out _ R.out false FA.out).mono ?_; rintro e w' ⟨rfl, rfl⟩
      go_wp2_with fail
      go_ret
      exact ⟨rfl, 0, rfl⟩
    · cases hfb : fineL b
      · obtain rfl : z = false := by rw [← hz, domL_no2 hfb]
        have FA := Lib.hid hfa; clear hfa hz hx
        have FB := Lib.hid hfb; clear hfb
        go_enter Tryd.func16, Tryd.ntmps16
        go_wp2_with fail
        refine (fineR_is A c _ _ HN.out _ R.out true FA.out).mono ?_; rintro e w' ⟨rfl, rfl⟩
        go_wp2_with fail
        refine (fineR_is A' c' _ b HM.out _ R'.out false FB.out).mono ?_; rintro e w' ⟨rfl, rfl⟩
        go_wp2_with fail
        go_ret
        exact ⟨rfl, 0, rfl⟩
      · by_cases hl : n = m
        · obtain ⟨y, b', rfl⟩ : ∃ y b', b = y :: b' := by
            cases b with
            | nil => have := HM.out; simp at this; omega
            | cons y b' => exact ⟨y, b', rfl⟩
          have hm : m = b'.length + 1 := by rw [← HM.out]; rfl
          have hlen : a.length = b'.length := by omega
          have hd := domL_cons hfa hfb hlen
          rw [hz] at hd
          obtain ⟨ad, rfl, hc⟩ := R.out.at_ (k := 0) (by simp)
          obtain ⟨ad', rfl, hc'⟩ := R'.out.at_ (k := 0) (by simp)
          have e1 : ad.add 0 = ad := rfl
          have e2 : ad'.add 0 = ad' := rfl
          rw [e1] at hc
          rw [e2] at hc'
          simp only [List.getElem_cons_zero] at hc hc'
          have d1 : ((n : Int) != (m : Int)) = false := by simp; omega
          have d2 : ((n : Int) == 0) = false := by simp; omega
          have d3 : 1 ≤ n := by omega
          have d4 : 0 < n := by omega
          have d5 : 1 ≤ m := by omega
          have d5' : 0 < m := by omega
          obtain ⟨A1, hs1, hr1⟩ := cut1 R.out HN.out d3
          obtain ⟨A2, hs2, hr2⟩ := cut1 R'.out HM.out d5
          have R1 := Lib.hid hr1; clear hr1
          have R2 := Lib.hid hr2; clear hr2
          have D6 : Hid (a.length = n - 1) := Lib.hid (by omega)
          have D7 : Hid (b'.length = m - 1) := Lib.hid (by omega)
          have IH := Lib.hid ih; clear ih
          clear hl hx hz hlen e1 e2 hm
          have FA := Lib.hid hfa; clear hfa
          have FB := Lib.hid hfb; clear hfb
          by_cases he : x = y
          · rw [if_pos he] at hd
            have D := Lib.hid hd; clear hd
            have HI := Lib.hid (fun k => IH.out A1 A2 (c - 1) (c' - 1) (n - 1) (m - 1) b' D6.out D7.out (w.drewN k) (R1.out.drewN k) (R2.out.drewN k) z D.out.symm)
            have hq : ((x : Int) == y) = true := by simp [he]
            clear he
            go_enter Tryd.func16, Tryd.ntmps16
            go_wp2_with fail
            refine (fineR_is _ c _ _ HN.out _ R.out true FA.out).mono ?_; rintro e w' ⟨rfl, rfl⟩
            go_wp2_with fail
            refine (fineR_is _ c' _ _ HM.out _ R'.out true FB.out).mono ?_; rintro e w' ⟨rfl, rfl⟩
            go_wp2_with fail
            go_quiet (fail)
            go_wp2_with fail
            go_quiet ((go_at_call 16; exact quiet_add (HI.out _)))
            go_wp2_with fail
            go_ret
            exact ⟨rfl, _, World.drewN_drewN _ _ _⟩
          · rw [if_neg he] at hd
            have D := Lib.hid hd; clear hd
            have hq : ((x : Int) == y) = false := by simp [he]
            clear he
            go_enter Tryd.func16, Tryd.ntmps16
            go_wp2_with fail
            refine (fineR_is _ c _ _ HN.out _ R.out true FA.out).mono ?_; rintro e w' ⟨rfl, rfl⟩
            go_wp2_with fail
            refine (fineR_is _ c' _ _ HM.out _ R'.out true FB.out).mono ?_; rintro e w' ⟨rfl, rfl⟩
            go_wp2_with fail
            go_quiet (fail)
            go_wp2_with fail
            go_quiet ((go_at_call 13; exact quiet_add_left (beatsR_is _ _ z D.out.symm _)))
            go_wp2_with fail
            go_ret
            exact ⟨rfl, _, World.drewN_drewN _ _ _⟩
        · obtain rfl : z = false := by rw [← hz, domL_no3 (by have := HN.out; have := HM.out; omega)]
          have d1 : ((n : Int) != (m : Int)) = true := by simp; omega
          have FA := Lib.hid hfa; clear hfa hz hl hx
          have FB := Lib.hid hfb; clear hfb
          go_enter Tryd.func16, Tryd.ntmps16
          go_wp2_with fail
          refine (fineR_is _ c _ _ HN.out _ R.out true FA.out).mono ?_; rintro e w' ⟨rfl, rfl⟩
          go_wp2_with fail
          refine (fineR_is _ c' _ _ HM.out _ R'.out true FB.out).mono ?_; rintro e w' ⟨rfl, rfl⟩
          go_wp2_with fail
          go_ret
          exact ⟨rfl, 0, rfl⟩
/-! Text -/
theorem str_app (a b : List UInt8) : (⟨a.toArray⟩ : ByteArray) ++ ⟨b.toArray⟩ = ⟨(a ++ b).toArray⟩ := by ext1; simp
theorem itoa_dig {d : Int} (h0 : 0 ≤ d) (h1 : d < 3) : Lib.itoa d = [dig d] := by
  obtain rfl | rfl | rfl : d = 0 ∨ d = 1 ∨ d = 2 := by omega
  all_goals
    unfold Lib.itoa
    rw [if_neg (by omega), Lib.decDigits_one (by decide)]
    rfl
theorem digR_at {d : Int} (h0 : 0 ≤ d) (h1 : d < 3) (w : World) : Calls Tryd.prog 24 #[.int .i64 d] w fun e w' => e = .returned (.string ⟨#[dig d]⟩) ∧ w = w' := by
  have := digitsR_any d (by omega) (by omega) w
  rw [itoa_dig h0 h1] at this
  exact this.mono fun _ _ h => ⟨h.1, h.2.symm⟩
theorem map_take {l : List Int} {k : Nat} (hk : k < l.length) : (l.take (k + 1)).map dig = (l.take k).map dig ++ [dig l[k]] := by
  rw [List.take_succ_eq_append_getElem hk, List.map_append]; rfl
set_option maxHeartbeats 400000 in
theorem textR_is (A : Option Addr) (c n : Nat) (l : List Int) (hn : l.length = n) (w : World) (hr : RI w A c l) (T : List UInt8) (hT : textL l = T) :
    Calls Tryd.prog 18 #[.slice A n c] w fun e w' => e = .returned (.string ⟨T.toArray⟩) ∧ w = w' := by
  subst hn
  have R := Lib.hid hr; clear hr
  cases hf : fineL l
  · obtain rfl : T = [] := by rw [← hT, textL_bad hf]
    have F := Lib.hid hf; clear hf hT
    go_enter Tryd.func18, Tryd.ntmps18
    go_wp2_with fail
    refine (fineR_is A c _ l rfl _ R.out false F.out).mono ?_; rintro e w' ⟨rfl, rfl⟩
    go_wp2_with fail
    go_ret
    exact ⟨rfl, rfl⟩
  · have h8 := fineL_len hf
    have hall := fineL_all hf
    have F := Lib.hid hf; clear hf
    have HA := Lib.hid hall; clear hall
    have HT := Lib.hid hT; clear hT
    go_enter Tryd.func18, Tryd.ntmps18
    go_wp2_with fail
    refine (fineR_is A c _ l rfl _ R.out true F.out).mono ?_; rintro e w' ⟨rfl, rfl⟩
    go_wp2_with fail
    go_loop [3, 4] (fun s i => ∃ k : Nat, k ≤ l.length ∧ i = .int .i64 k ∧ s = .string ⟨((l.take k).map dig).toArray⟩) (fun _ i => l.length - (intOf i).toNat)
    case atStart => exact ⟨0, by omega, rfl, rfl⟩
    case round =>
      obtain ⟨k, hk, rfl, rfl⟩ := hrel
      by_cases hlt : k < l.length
      · obtain ⟨ad, rfl, hc⟩ := R.out.at_ hlt
        have hd := HA.out k hlt
        have hm := Lib.hid (map_take hlt)
        have hlen : ((l.take k).map dig).length ≤ 8 := by rw [List.length_map, List.length_take]; omega
        generalize (l.take k).map dig = M at hm hlen ⊢
        go_wp2_with fail
        refine (digR_at hd.1 hd.2 _).mono ?_; rintro e w' ⟨rfl, rfl⟩
        go_wp2_with fail
        go_round
        case rel => exact ⟨k + 1, by omega, by go_num, by rw [hm.out, ← str_app]⟩
        case measure => simp [intOf]; omega
      · obtain rfl : k = l.length := by omega
        by_cases h0 : l = []
        · subst h0
          have ht : Hid (T = [45]) := Lib.hid (by rw [← HT.out]; rfl)
          go_wp2_with fail
          go_ret
          exact ⟨ret_str (by rw [ht.out]), rfl⟩
        · have ht : Hid (T = l.map dig) := Lib.hid (by rw [← HT.out, textL_good F.out h0])
          have hm : l.map dig ≠ [] := by simpa using h0
          have e2 : (List.map dig l).isEmpty = false := by simpa using h0
          have hk2 : (l.take l.length).map dig = l.map dig := by rw [List.take_length]
          rw [hk2]
          generalize l.map dig = M at ht hm e2 ⊢
          clear h0 hk2
          go_wp2_with fail
          go_ret
          exact ⟨ret_str (by rw [ht.out]), rfl⟩
/-! Parse -/
def ParsedR (w : World) (s : List UInt8) (e : Ending) (w' : World) : Prop :=
  ∃ A c, e = .returned (.tuple #[.slice A (valP s).length c, .bool (okP s)]) ∧ RI w' A c (valP s) ∧ Below w.heap.size w w'
theorem parsedR_no {w w' : World} {s : List UInt8} (h : okP s = false) (hb : Below w.heap.size w w') : ParsedR w s (.returned (.tuple #[.slice none 0 0, .bool false])) w' :=
  ⟨none, 0, by rw [valP_bad h, h]; rfl, by rw [valP_bad h]; exact RI.nil _, hb⟩
theorem nums_snoc {s : List UInt8} {k : Nat} (hk : k < s.length) : numsL (s.take (k + 1)) = numsL (s.take k) ++ [numC s[k]] := by
  unfold numsL; rw [List.take_succ_eq_append_getElem hk, List.map_append]; rfl
theorem nums_len (s : List UInt8) (k : Nat) : (numsL (s.take k)).length = min k s.length := by unfold numsL; simp
set_option maxHeartbeats 1000000 in
theorem parseR_is (s : List UInt8) (w : World) (ht : s.length ≤ maxLen) : Calls Tryd.prog 20 #[.string ⟨s.toArray⟩] w (ParsedR w s) := by
  obtain ⟨i0, hi, hz0, hz1, hz2⟩ := info_parts infoInt
  unfold maxLen at ht
  by_cases h45 : s = [45]
  · subst h45
    have P0 : ParsedR w [45] (.returned (.tuple #[.slice none 0 0, .bool true])) w := ⟨none, 0, rfl, RI.nil _, Below.refl _ _⟩
    clear hi hz0 hz1 hz2 ht
    go_enter Tryd.func20, Tryd.ntmps20
    go_wp2_with fail
    go_loopw [4, 5] (fun v i wr => v = .slice none 0 0 ∧ i = .int .i64 ((0 : Nat) : Int) ∧ w = wr) (fun _ i _ => 0)
    case atStart => exact ⟨rfl, rfl, rfl⟩
    case round =>
      obtain ⟨rfl, rfl, rfl⟩ := hrel
      go_wp2_with fail
      refine (textR_is none 0 0 [] rfl _ (RI.nil _) [45] rfl).mono ?_; rintro e w' ⟨rfl, rfl⟩
      go_wp2_with fail
      go_ret2
      exact P0
  · by_cases h0 : s = []
    · subst h0
      have P0 := parsedR_no (w := w) (w' := w) okP_nil (Below.refl _ _)
      clear hi hz0 hz1 hz2 ht h45
      go_enter Tryd.func20, Tryd.ntmps20
      go_wp2_with fail
      go_loopw [4, 5] (fun v i wr => v = .slice none 0 0 ∧ i = .int .i64 ((0 : Nat) : Int) ∧ w = wr) (fun _ i _ => 0)
      case atStart => exact ⟨rfl, rfl, rfl⟩
      case round =>
        obtain ⟨rfl, rfl, rfl⟩ := hrel
        go_wp2_with fail
        go_ret2
        exact P0
    · have e1 : (s == [45]) = false := by simpa using h45
      have e1' : (s != [45]) = true := by simpa using h45
      have e2 : s.isEmpty = false := by simpa using h0
      have e3 : (!s.isEmpty) = true := by simpa using h0
      have HR := Lib.hid (ref_parse h45 h0)
      have VAL := Lib.hid (valP_of h45)
      have OK := Lib.hid (okP_of h45 h0)
      clear h45
      go_enter Tryd.func20, Tryd.ntmps20
      go_wp2_with fail
      go_loopw [4, 5] (fun v i wr => ∃ k : Nat, k ≤ s.length ∧ k ≤ 9 ∧ i = .int .i64 k ∧ OwnI wr w.heap.size v (numsL (s.take k)) ∧ Below w.heap.size w wr) (fun _ i _ => 9 - (intOf i).toNat)
      case atStart => exact ⟨0, by omega, by omega, rfl, OwnI.nil _ _, Below.refl _ _⟩
      case round =>
        obtain ⟨k, hk, hk9, rfl, hown, hB⟩ := hrel
        by_cases hlt : k < s.length ∧ k < 9
        · obtain ⟨hl1, hl2⟩ := hlt
          have hl2' : (k : Int) < 9 := by omega
          have HN := Lib.hid (nums_snoc hl1)
          have hnl := nums_len s k
          have hnl2 : (numsL (s.take k)).length ≤ 9 := by omega
          clear hnl
          unfold OwnI at hown
          go_wp2_with (at_builtin; refine wpList_append_own _ rfl _ _ 22 rfl w.heap.size 3 i0 (.int .i64 0) 1 8 Tryd.underlying22 hi hz0 hz1 hz2 rfl (by decide) _ _ _ rfl (hown.alloc _) ⟨wr.heap.size, 0, none⟩ 1 1 [.int .i64 (numC s[k])] rfl rfl ?c1 ?c2 ?c3 ?c4 ?c5 ?_)
          case c1 =>
            intro j u hj
            match j, hj with
            | 0, hj => simp at hj; subst hj; simp [Addr.add]; exact num_cell s k hl1 _
          case c2 => intro u hu; simp at hu; subst hu; rfl
          case c3 => unfold maxLen; omega
          case c4 => omega
          case c5 => have := hB.size; simp; omega
          intro v' w1 hown' hgrow _
          have h1 : OwnI w1 w.heap.size v' (numsL (s.take (k + 1))) := by rw [HN.out]; unfold OwnI; simpa using hown'
          have h2 : Below w.heap.size w w1 := (hB.alloc hB.size _).grown hgrow (by have := hB.size; simp; omega) (fun j hj => (hown.lt j hj).1)
          clear hown' hgrow
          go_wp2
          go_roundw
          case rel => exact ⟨k + 1, by omega, by omega, by go_num, h1, h2⟩
          case measure => simp [intOf]; omega
        · obtain ⟨A, c, rfl, hr⟩ := hown.reads
          have hk2 : numsL (s.take k) = numsL (s.take 9) := by
            rcases (show k = 9 ∨ (k = s.length ∧ k ≤ 9) by omega) with rfl | ⟨rfl, h⟩
            · rfl
            · rw [List.take_length, List.take_of_length_le h]
          rw [hk2] at hr
          obtain ⟨n, hn⟩ : ∃ n, (numsL (s.take k)).length = n := ⟨_, rfl⟩
          have hn9 : (numsL (s.take 9)).length = n := by rw [← hk2, hn]
          rw [hn]
          obtain ⟨T, hT⟩ : ∃ T, textL (numsL (s.take 9)) = T := ⟨_, rfl⟩
          have h3 : ((s.length : Int) ≤ k ∧ (0 : Int) ≤ k) ∨ ((k : Int) < s.length ∧ (9 : Int) ≤ k) := by omega
          cases hok : okP s
          · have P0 := parsedR_no (w := w) (w' := wr) hok hB
            have hTs : (T == s) = false := by
              have := HR.out
              rw [hT, hok] at this
              simp at this
              simpa using this
            have R := Lib.hid hr
            have HT := Lib.hid hT
            have H9 := Lib.hid hn9
            clear hn hk2 hr hT hok hown hlt hn9
            rcases h3 with ⟨h3, h4⟩ | ⟨h3, h4⟩
            all_goals
              go_wp2_with fail
              refine (textR_is A c n _ H9.out _ R.out T HT.out).mono ?_; rintro e w' ⟨rfl, rfl⟩
              go_wp2_with fail
              go_ret2
              exact P0
          · have hv := VAL.out
            rw [hok, if_pos rfl] at hv
            have hf := OK.out
            rw [hok] at hf
            have h8 : s.length ≤ 8 := by have := fineL_len hf.symm; unfold numsL at this; simpa using this
            have h99 : s.take 9 = s := List.take_of_length_le (by omega)
            rw [h99] at hr hn9 hT
            have P0 : ParsedR w s (.returned (.tuple #[.slice A n c, .bool true])) wr :=
              ⟨A, c, by rw [hv, hok, hn9], by rw [hv]; exact hr, hB⟩
            have hTs : (T == s) = true := by
              have := HR.out
              rw [h99, hT, hok] at this
              simp at this
              simpa using this
            have h5 : (s.length : Int) ≤ k := by omega
            have R := Lib.hid hr
            have HT := Lib.hid hT
            have H9 := Lib.hid hn9
            clear hn hk2 hr hT hok hown hlt hn9 h3 hv hf h99
            go_wp2_with fail
            refine (textR_is A c n _ H9.out _ R.out T HT.out).mono ?_; rintro e w' ⟨rfl, rfl⟩
            go_wp2_with fail
            go_ret2
            exact P0
end Go.Proofs.YtnihnfhophmlhaaDoor
