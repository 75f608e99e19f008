/- The reference's bank: place, Busy, Value. Own work. -/
import Derived.Test.YtdfkmkflcnfchaaRBk
namespace Go.Proofs.Ytdfkmkflcnfchaa
open Go.ChangeShapes Go.WideShapes Go.ChangeAt Go.RowKit CellM

section
variable {w : World} {rb : Nat} {SV : Value} {no : List Int} {R : Int → Rs} {G : Nat → Prop} {NA CA : Option Addr} {nh nc ch cc : Nat} {rp : Int → Nat} {Gc : Int → Nat → Prop}
theorem RBAtD.max (H : RBAtD w rb SV no R G NA CA nh nc ch cc rp Gc) : no.length ≤ 9223372036854775807 := by
  have := Nat.le_trans H.rn.le H.rn.max
  unfold maxLen at this; exact this
/-- The cell's number and its pointer. -/
theorem RBAtD.at_ (H : RBAtD w rb SV no R G NA CA nh nc ch cc rp Gc) {k : Nat} (hk : k < no.length) : NA = some ⟨nh, 0, none⟩ ∧ w.cell? ⟨nh, k, none⟩ = some (.int .i64 no[k]) ∧ CA = some ⟨ch, 0, none⟩ ∧ w.cell? ⟨ch, k, none⟩ = some (.pointer (some ⟨rp no[k], 0, none⟩)) :=
  ⟨(H.rn.get hk).1, (H.rn.at_ k _ (valsI_at hk)).1, (H.rk.get hk).1, (H.rk.at_ k _ (ptrs_at hk)).1⟩
set_option maxHeartbeats 2000000 in
theorem placeR_is (H : RBAtD w rb SV no R G NA CA nh nc ch cc rp Gc) (n : Int) :
    Calls Try.prog 22 #[.pointer (some ⟨rb, 0, none⟩), .int .i64 n] w fun e w' => e = .returned (.int .i64 (placeI no n)) ∧ w = w' := by
  have hmax := H.max
  have c1 := H.n.1
  have HA := Lib.hid (fun (k : Nat) (hk : k < no.length) => H.at_ hk)
  clear H
  go_enter Try.func22, Try.ntmps22
  go_wp2_with fail
  go_loopw [5] (fun i wr => ∃ k : Nat, k ≤ no.length ∧ i = .int .i64 k ∧ Hid (∀ j (hj : j < no.length), j < k → no[j] ≠ n) ∧ wr = w) (fun i _ => no.length - (Go.RowKit.intOf i).toNat)
  case atStart => exact ⟨0, by omega, rfl, Lib.hid (fun j _ hj => by omega), rfl⟩
  case round =>
    obtain ⟨k, hk, rfl, HB, rfl⟩ := hrel
    by_cases hlt : k < no.length
    · obtain ⟨rfl, x0, _, _⟩ := HA.out k hlt
      by_cases h1 : no[k] = n
      · have d1 : (no[k] == n) = true := by simp [h1]
        have HF := Lib.hid (place_at hlt h1 HB.out)
        clear h1
        go_wp2_with fail
        go_ret
        exact ⟨ret_int HF.out.symm, rfl⟩
      · have d1 : (no[k] == n) = false := by simp [h1]
        have HN : Hid (∀ j (hj : j < no.length), j < k + 1 → no[j] ≠ n) := Lib.hid (fun j hj hjk => by
          rcases Nat.lt_or_ge j k with h3 | h3
          · exact HB.out j hj h3
          · obtain rfl : j = k := by omega
            exact h1)
        clear h1
        go_wp2_with fail
        go_roundw
        case rel => exact ⟨k + 1, by omega, by go_num, HN, by first | trivial | rfl⟩
        case measure => simp [Go.RowKit.intOf]; omega
    · obtain rfl : k = no.length := by omega
      have HF := Lib.hid (place_no (n := n) (fun j hj => HB.out j hj hj))
      go_wp2_with fail
      go_ret
      exact ⟨ret_int HF.out.symm, rfl⟩
theorem RBAtD.find (H : RBAtD w rb SV no R G NA CA nh nc ch cc rp Gc) {n : Int} (hn : n ∈ no) (t : Int) : Calls Try.prog 29 #[.pointer (some ⟨rp n, 0, none⟩), .int .i64 t] w fun e w' => e = .returned (.int .i64 (findA (R n).L t)) ∧ w = w' := by
  obtain ⟨A, h, c, hr⟩ := H.c n hn
  exact find_is w (rp n) (R n) A h c _ t hr
set_option maxHeartbeats 2000000 in
theorem busyRB_is (H : RBAtD w rb SV no R G NA CA nh nc ch cc rp Gc) (t : Int) :
    Calls Try.prog 12 #[.pointer (some ⟨rb, 0, none⟩), .int .i64 t] w fun e w' => e = .returned (.int .i64 (busyRI no R t)) ∧ w = w' := by
  have hmax := H.max
  have c1 := H.n.1
  have c2 := H.k.1
  have HA := Lib.hid (fun (k : Nat) (hk : k < no.length) => H.at_ hk)
  have HF := Lib.hid (fun (k : Nat) (hk : k < no.length) => H.find (List.getElem_mem hk) t)
  clear H
  go_enter Try.func12, Try.ntmps12
  go_wp2_with fail
  go_loopw [5] (fun i wr => ∃ k : Nat, k ≤ no.length ∧ i = .int .i64 k ∧ Hid (∀ j (hj : j < no.length), j < k → isAt R t no[j] = false) ∧ wr = w) (fun i _ => no.length - (Go.RowKit.intOf i).toNat)
  case atStart => exact ⟨0, by omega, rfl, Lib.hid (fun j _ hj => by omega), rfl⟩
  case round =>
    obtain ⟨k, hk, rfl, HB, rfl⟩ := hrel
    by_cases hlt : k < no.length
    · obtain ⟨rfl, x0, rfl, x1⟩ := HA.out k hlt
      have HFk := Lib.hid (HF.out k hlt)
      obtain ⟨fv, hfv⟩ : ∃ fv, findA (R no[k]).L t = fv := ⟨_, rfl⟩
      rw [hfv] at HFk
      by_cases h1 : 0 ≤ fv
      · have d1 : decide (0 ≤ fv) = true := by simp [h1]
        have HE := Lib.hid (busyRI_at (R := R) (t := t) hlt (by unfold isAt; rw [hfv]; exact d1) HB.out)
        clear hfv h1
        go_wp2_with fail
        refine HFk.out.mono ?_; rintro e w' ⟨rfl, rfl⟩
        go_wp2_with fail
        go_ret
        exact ⟨ret_int HE.out.symm, rfl⟩
      · have d1 : decide (0 ≤ fv) = false := by simp at h1 ⊢; omega
        have HN : Hid (∀ j (hj : j < no.length), j < k + 1 → isAt R t no[j] = false) := Lib.hid (fun j hj hjk => by
          rcases Nat.lt_or_ge j k with h3 | h3
          · exact HB.out j hj h3
          · obtain rfl : j = k := by omega
            unfold isAt; rw [hfv]; exact d1)
        clear hfv h1
        go_wp2_with fail
        refine HFk.out.mono ?_; rintro e w' ⟨rfl, rfl⟩
        go_wp2_with fail
        go_roundw
        case rel => exact ⟨k + 1, by omega, by go_num, HN, by first | trivial | rfl⟩
        case measure => simp [Go.RowKit.intOf]; omega
    · obtain rfl : k = no.length := by omega
      have HE := Lib.hid (busyRI_no (t := t) (fun j hj => HB.out j hj hj))
      go_wp2_with fail
      go_ret
      exact ⟨ret_int HE.out.symm, rfl⟩
theorem valueRB_is (H : RBAtD w rb SV no R G NA CA nh nc ch cc rp Gc) (n : Int) (z : Int) (hz : (R n).value = z) (h0 : n ∉ no → z = 0) :
    Calls Try.prog 14 #[.pointer (some ⟨rb, 0, none⟩), .int .i64 n] w fun e w' => e = .returned (.int .i64 z) ∧ w = w' := by
  have hmax := H.max
  have HP := Lib.hid (placeR_is H n)
  by_cases hn : n ∈ no
  · obtain ⟨i, hi, hp, hni⟩ := place_in hn
    obtain ⟨_, _, rfl, x1⟩ := H.at_ hi
    have c2 := H.k.1
    rw [hni] at x1
    obtain ⟨A, h, c, hr⟩ := H.c n hn
    have v2 := hr.value.1
    rw [hz] at v2
    rw [hp] at HP
    clear H hr hni hp hz h0
    go_enter Try.func14, Try.ntmps14
    go_wp2_with fail
    refine HP.out.mono ?_; rintro e w' ⟨rfl, rfl⟩
    go_wp2_with fail
    go_ret
    exact ⟨rfl, rfl⟩
  · rw [place_out hn] at HP
    have HZ := Lib.hid (h0 hn)
    clear H hz h0 hn
    go_enter Try.func14, Try.ntmps14
    go_wp2_with fail
    refine HP.out.mono ?_; rintro e w' ⟨rfl, rfl⟩
    go_wp2_with fail
    go_ret
    exact ⟨ret_int HZ.out.symm, rfl⟩
end
end Go.Proofs.Ytdfkmkflcnfchaa
