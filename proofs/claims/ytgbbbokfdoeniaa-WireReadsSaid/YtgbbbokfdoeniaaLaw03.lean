/- The laws of layer 3: the chapter's example, WireNobody, WirePuts: their walks. Own work. -/
import Derived.Test.YtgbbbokfdoeniaaNumR
namespace Go.Proofs.Ytgbbbokfdoeniaa
open Go.ChangeShapes Go.WideShapes Go.ChangeAt Go.RowKit Wire

theorem RAt.below {w w' : World} {B g : Nat} {s : List UInt8} {e : Int} (h : RAt w g s e) (hb : Below B w w') (hg : g < B) : RAt w' g s e := by
  obtain ⟨A, c, h1, h2, h3⟩ := h
  exact ⟨A, c, h1.below hb hg, h2.below (hb.mono (by omega)), h3⟩
theorem RAt.lt {w : World} {g : Nat} {s : List UInt8} {e : Int} (h : RAt w g s e) : g < w.heap.size := by
  obtain ⟨A, c, h1, h2, h3⟩ := h
  exact h1.lt
theorem cell_grown {w w' : World} {g : Nat} {p : Addr} {x : Value} (h : w.cell? p = some x) (hg : w.grownBy w' (some g)) (hp : p.block ≠ g) : w'.cell? p = some x :=
  hg.cell h (by simpa using hp)
theorem put300 : putN (clampN 300) = [172, 2] := by
  have h : clampN 300 = 300 := by decide
  rw [h, putN_high (by decide), putN_low (by decide)]
  decide
theorem put0 : putN (clampN 0) = [0] := by
  have h : clampN 0 = 0 := by decide
  rw [h, putN_low (by decide)]
  decide
theorem all300 : allN [] [300, 0] = [172, 2, 0] := by
  unfold allN; simp only [List.flatMap_cons, List.flatMap_nil, put300, put0]; rfl
theorem reads2 (w : World) : Reads (w.alloc (.cells #[.int .i64 300, .int .i64 0] 3)) (some ⟨w.heap.size, 0, none⟩) [300, 0] := by
  intro k hk
  refine ⟨_, rfl, ?_⟩
  match k, hk with
  | 0, _ => simp [Addr.add]
  | 1, _ => simp [Addr.add]
theorem put_is (A' : Option Addr) (c' n : Nat) (l : List Int) (hn : l.length = n) (h1 : n ≤ 1000) (w : World) (hr : Reads w A' l) (M : List UInt8) (hM : allN [] l = M) :
    Calls Try.prog 9 #[.slice none 0 0, .slice A' n c'] w fun e w' => ∃ A c, e = .returned (.slice A M.length c) ∧ BR w' w'.heap.size A c M ∧ Below w.heap.size w w' := by
  subst hn; subst hM
  refine (put_any w.heap.size none 0 [] A' c' l w (BR.nil _ _) hr (by simp) h1).mono ?_
  rintro e w' ⟨v, rfl, hown, hb⟩
  obtain ⟨A, c, rfl, h⟩ := hown.reads
  exact ⟨A, c, rfl, h, hb⟩
theorem newR_is (B : Nat) (A : Option Addr) (c n : Nat) (L : List UInt8) (hn : L.length = n) (w : World) (h : BR w B A c L) (hl : n ≤ 140737488355328) :
    Calls Try.prog 11 #[.slice A n c] w fun r w' => ∃ g, r = .returned (.pointer (some ⟨g, 0, none⟩)) ∧ RAt w' g L 0 ∧ w.heap.size ≤ g ∧ g < w'.heap.size ∧ Below w.heap.size w w' := by
  subst hn; exact newR_any B A c L w h hl
theorem left_is (g : Nat) (s : List UInt8) (e : Int) (w : World) (h : RAt w g s e) (n : Nat) (hn : s.length = n) :
    Calls Try.prog 16 #[.pointer (some ⟨g, 0, none⟩)] w fun r w' => r = .returned (.int .i64 n) ∧ w = w' := by
  subst hn; exact left_any g s e w h
theorem conv_is {w : World} {B c n : Nat} {A : Option Addr} {L : List UInt8} (h : BR w B A c L) (hn : L.length = n) {T : ByteArray} (hT : T = ⟨L.toArray⟩) : (convert 22 9 (.slice A n c)).run Try.prog w = .ok (.string T) w := by
  subst hn; subst hT; exact conv_str h
set_option maxHeartbeats 2000000 in
theorem alive_any (w : World) : Calls Try.prog 7 #[] w fun e w' => e = .returned (.bool true) ∧ Below w.heap.size w w' := by
  go_enter Try.func7, Try.ntmps7
  go_wp2_with fail
  refine (put_is _ _ 2 [300, 0] rfl (by decide) _ (reads2 w) [172, 2, 0] all300).mono ?_; rintro e w1 ⟨A, c, rfl, hr, hb⟩
  have b1 := (below_alloc w (.cells #[.int .i64 300, .int .i64 0] 3)).trans (hb.mono (by simp))
  have R1 := Lib.hid hr; clear hr hb
  have B1 := Lib.hid b1; clear b1
  go_wp2_with fail
  refine (newR_is _ A c 3 [172, 2, 0] rfl _ R1.out (by decide)).mono ?_; rintro e w2 ⟨g, rfl, hA, hg, hg2, hb⟩
  have b2 := B1.out.trans (hb.mono B1.out.size)
  have R2 := Lib.hid (R1.out.below hb); clear hb
  have B2 := Lib.hid b2; clear b2
  have A2 := Lib.hid hA; clear hA
  have G1 := Lib.hid hg; clear hg
  go_wp2_with fail
  refine (num_any g [172, 2, 0] 0 300 300 [0] 0 (by decide) _ A2.out).mono ?_; rintro e w3 ⟨rfl, hA, hgr⟩
  have R3 := Lib.hid (R2.out.grown hgr G1.out)
  have B3 := Lib.hid (B2.out.grown hgr (by have := B2.out.size; omega) (fun k hk => by cases hk; have := B1.out.size; have := G1.out; omega)); clear hgr
  have A3 := Lib.hid hA; clear hA
  go_wp2_with fail
  refine (num_any g [0] 0 0 0 [] 0 (by decide) _ A3.out).mono ?_; rintro e w4 ⟨rfl, hA, hgr⟩
  have R4 := Lib.hid (R3.out.grown hgr G1.out)
  have B4 := Lib.hid (B3.out.grown hgr (by have := B3.out.size; omega) (fun k hk => by cases hk; have := B1.out.size; have := G1.out; omega)); clear hgr
  have A4 := Lib.hid hA; clear hA
  go_wp2_with fail
  have hlit := br_lit w4 [128, 0] 2 rfl (by decide) #[.int .u8 128, .int .u8 0] rfl
  have HL := Lib.hid hlit; clear hlit
  refine (newR_is _ _ _ 2 [128, 0] rfl _ HL.out (by decide)).mono ?_; rintro e w5 ⟨g5, rfl, hA, hg, hg5, hb⟩
  have hb' := (below_alloc w4 (.cells #[.int .u8 128, .int .u8 0] 5)).trans (hb.mono (by simp))
  have G5 : Hid (w4.heap.size ≤ g5) := Lib.hid (Nat.le_trans (by simp) hg)
  have R5 := Lib.hid (R4.out.below (hb'.mono (by have := B4.out.size; have := A4.out.lt; have := G1.out; omega)))
  have A5 := Lib.hid (A4.out.below hb' A4.out.lt)
  have B5 := Lib.hid (B4.out.trans (hb'.mono B4.out.size)); clear hb hb' HL hg
  have Q5 := Lib.hid hA; clear hA
  have H15 : Hid (w1.heap.size ≤ g5) := Lib.hid (by have := G1.out; have := A4.out.lt; have := G5.out; omega)
  have H45 : Hid (w.heap.size ≤ g5) := Lib.hid (by have := B4.out.size; have := G5.out; omega)
  have Hg5 : Hid (g < g5) := Lib.hid (by have := A4.out.lt; have := G5.out; omega)
  go_wp2_with fail
  refine (num_any g5 [128, 0] 0 9 0 [] 3 (by decide) _ Q5.out).mono ?_; rintro e w6 ⟨rfl, hA, hgr⟩
  have R6 := Lib.hid (R5.out.grown hgr H15.out)
  have A6 := Lib.hid (A5.out.grown hgr Hg5.out)
  have B6 := Lib.hid (B5.out.grown hgr (by have := B5.out.size; omega) (fun k hk => by cases hk; exact H45.out)); clear hgr
  have Q6 := Lib.hid hA; clear hA
  have hc := conv_is R6.out (n := 3) rfl (T := ⟨#[172, 2, 0]⟩) rfl
  go_wp2_with fail
  refine (left_is g [] 0 _ A6.out 0 rfl).mono ?_; rintro e w' ⟨rfl, rfl⟩
  go_wp2_with fail
  refine (err_any g [] 0 _ A6.out).mono ?_; rintro e w' ⟨rfl, rfl⟩
  go_wp2_with fail
  refine (err_any g5 [] 3 _ Q6.out).mono ?_; rintro e w' ⟨rfl, rfl⟩
  go_wp2_with fail
  refine (err_nil _).mono ?_; rintro e w' ⟨rfl, rfl⟩
  go_wp2_with fail
  refine (num_nil 3 _).mono ?_; rintro e w' ⟨rfl, rfl⟩
  go_wp2_with fail
  go_ret
  exact ⟨rfl, B6.out⟩
theorem nobody_walk (n : Int) (w : World) : Calls Try.prog 6 #[.int .i64 n] w fun e w' => e = .returned (.bool true) ∧ Below w.heap.size w w' := by
  go_enter Try.func6, Try.ntmps6
  go_wp2_with fail
  refine (fail_nil 1 _).mono ?_; rintro e w' ⟨rfl, rfl⟩
  go_wp2_with fail
  refine (num_nil n _).mono ?_; rintro e w' ⟨rfl, rfl⟩
  go_wp2_with fail
  refine (left_nil _).mono ?_; rintro e w' ⟨rfl, rfl⟩
  go_wp2_with fail
  refine (err_nil _).mono ?_; rintro e w' ⟨rfl, rfl⟩
  go_wp2_with fail
  refine (alive_any _).mono ?_; rintro e w1 ⟨rfl, hb⟩
  go_wp2_with fail
  go_ret
  exact ⟨rfl, hb⟩

theorem puts_walk (A : Option Addr) (c : Nat) (L : List UInt8) (A' : Option Addr) (c' : Nat) (l : List Int) (w : World) (h : BR w w.heap.size A c L) (hr : Reads w A' l) (hl : l.length ≤ maxLen) :
    Calls Try.prog 3 #[.slice A L.length c, .slice A' l.length c'] w fun e w' => e = .returned (.bool true) ∧ Below w.heap.size w w' := by
  have hL := h.max
  unfold maxLen at hL hl
  have H := Lib.hid h; clear h
  have R := Lib.hid hr; clear hr
  by_cases h1 : 100 < L.length
  · have h1' : (100 : Int) < L.length := by omega
    go_enter Try.func3, Try.ntmps3
    go_wp2_with fail
    refine (alive_any _).mono ?_; rintro e w1 ⟨rfl, hb1⟩
    go_wp2_with fail
    go_ret
    exact ⟨rfl, hb1⟩
  · have h1' : (L.length : Int) ≤ 100 := by omega
    by_cases h2 : 100 < l.length
    · have h2' : (100 : Int) < l.length := by omega
      go_enter Try.func3, Try.ntmps3
      go_wp2_with fail
      refine (alive_any _).mono ?_; rintro e w1 ⟨rfl, hb1⟩
      go_wp2_with fail
      go_ret
      exact ⟨rfl, hb1⟩
    · have h2' : (l.length : Int) ≤ 100 := by omega
      have k0 := conv_str H.out
      go_enter Try.func3, Try.ntmps3
      go_wp2_with fail
      clear k0
      refine (put_any _ A c L A' c' l _ H.out R.out (by omega) (by omega)).mono ?_; rintro e w1 ⟨v, rfl, hown, hb⟩
      have H1 := Lib.hid (H.out.below hb)
      have R1 := Lib.hid (R.out.below hb)
      have B1 := Lib.hid hb; clear hb
      obtain ⟨A1, c1, rfl, hr⟩ := hown.reads
      have P1 := Lib.hid hr; clear hr hown
      go_wp2_with fail
      refine (allR_any _ A c L A' c' l _ H1.out R1.out (by omega) (by omega)).mono ?_; rintro e w2 ⟨v, rfl, hown, hb⟩
      have H2 := Lib.hid (H1.out.below (hb.mono B1.out.size))
      have P2 := Lib.hid (P1.out.below hb)
      have B2 := Lib.hid (B1.out.trans (hb.mono B1.out.size)); clear hb
      obtain ⟨A2, c2, rfl, hr⟩ := hown.reads
      have Q2 := Lib.hid hr; clear hr hown
      have k2 := conv_str H2.out
      go_wp2_with fail
      refine (same_any _ _ A1 A2 c1 c2 _ _ _ P2.out Q2.out true (by simp)).mono ?_; rintro e w' ⟨rfl, rfl⟩
      go_wp2_with fail
      refine (alive_any _).mono ?_; rintro e w3 ⟨rfl, hb⟩
      go_wp2_with fail
      go_ret
      exact ⟨rfl, B2.out.trans (hb.mono B2.out.size)⟩
end Go.Proofs.Ytgbbbokfdoeniaa
