/- The bank's Len, has, Busy. Own work. -/
import Derived.Test.YtdfkmkflcnfchaaBAt
namespace Go.Proofs.Ytdfkmkflcnfchaa
open Go.ChangeShapes Go.WideShapes Go.ChangeAt Go.RowKit CellM

theorem valsI_at {l : List Int} {k : Nat} (hk : k < l.length) : (valsI l)[k]? = some (.int .i64 l[k]) := by unfold valsI; simp [hk]
theorem lenB_is (w : World) (bb : Nat) (EA : Option Addr) (eh ec n : Nat) (es : List Int) (z : Int) (he : Has w ⟨bb, 1, none⟩ (.slice EA n ec)) (hr : RowK w 1 EA eh ec n (valsI es)) (hz : es.getLastD 0 = z) :
    Calls Try.prog 20 #[.pointer (some ⟨bb, 0, none⟩)] w fun e w' => e = .returned (.int .i64 z) ∧ ∃ q, w' = w.drewN q := by
  have c1 := he.1
  have hl : es.length = n := by have := hr.len; unfold valsI at this; simpa using this
  have hmax : n ≤ 9223372036854775807 := by have := Nat.le_trans hr.le hr.max; unfold maxLen at this; exact this
  by_cases h0 : n = 0
  · subst h0
    have : es = [] := List.eq_nil_of_length_eq_zero hl
    subst this
    have HZ := Lib.hid hz; clear hz hr he
    go_enter Try.func20, Try.ntmps20
    go_wp2_with fail
    go_ret
    exact ⟨ret_int HZ.out, 0, rfl⟩
  · obtain ⟨hA, _⟩ := hr.get (show 0 < n by omega)
    subst hA
    have hk : n - 1 < es.length := by omega
    have hx := (hr.at_ (n - 1) _ (valsI_at hk)).1
    have hv : es[n - 1] = z := by
      rw [← hz, List.getLastD_eq_getLast?, List.getLast?_eq_getElem?, hl, List.getElem?_eq_getElem hk]; rfl
    rw [hv] at hx
    obtain ⟨m, rfl⟩ : ∃ m, n = m + 1 := ⟨n - 1, by omega⟩
    simp only [Nat.add_sub_cancel] at hx
    have hwk : IntKind.i64.wrap (((m + 1 : Nat) : Int) - 1) = (m : Int) := by rw [IntKind.wrap_i64]; omega
    have d0 : (((m + 1 : Nat) : Int) == 0) = false := by simp; omega
    clear hz hr he hk hv hl h0
    go_enter Try.func20, Try.ntmps20
    go_wp2_with fail
    go_quiet (fail)
    go_wp2_with fail
    go_ret
    exact ⟨rfl, _, rfl⟩
theorem BFix.sum {w : World} {bb : Nat} {L : List Strip} {SA EA : Option Addr} {sh sc eh ec mb : Nat} (H : BFix w bb L SA EA sh sc eh ec mb) (hL : errS L = 0) :
    Calls Try.prog 20 #[.pointer (some ⟨bb, 0, none⟩)] w fun e w' => e = .returned (.int .i64 (sumS L)) ∧ ∃ q, w' = w.drewN q :=
  lenB_is w bb EA eh ec _ _ _ H.e H.re (by rw [ends_last L 0 (errS_many hL)]; omega)
theorem has_is {w : World} {bb : Nat} {L : List Strip} {SA EA : Option Addr} {sh sc eh ec mb : Nat} (H : BFix w bb L SA EA sh sc eh ec mb) (hL : errS L = 0) (n : Int) :
    Calls Try.prog 24 #[.pointer (some ⟨bb, 0, none⟩), .int .i64 n] w fun e w' => e = .returned (.bool (decide (0 ≤ n) && decide (n < sumS L))) ∧ ∃ q, w' = w.drewN q := by
  have HC := Lib.hid (H.sum hL)
  clear H hL
  by_cases h0 : 0 ≤ n
  · have e0 : decide (0 ≤ n) = true := by simp [h0]
    rw [e0]
    go_enter Try.func24, Try.ntmps24
    go_wp2_with fail
    refine HC.out.mono ?_; rintro e w' ⟨rfl, q, rfl⟩
    go_wp2_with fail
    go_ret
    exact ⟨by simp, q, rfl⟩
  · have e0 : decide (0 ≤ n) = false := by simp; omega
    rw [e0]
    go_enter Try.func24, Try.ntmps24
    go_wp2_with fail
    go_ret
    exact ⟨rfl, 0, rfl⟩
/-- How Busy answers. -/
def busyV (o : Option Int) : Value := .tuple #[.int .i64 (o.getD 0), .bool o.isSome]
theorem busyP_is {w : World} {bb : Nat} {X : Bk} (hd : ∀ t, t < 8 → Has w ⟨bb, 3 + t * 2, none⟩ (.int .i64 ((X.d t).getD 0)) ∧ Has w ⟨bb, 3 + t * 2 + 1, none⟩ (.bool (X.d t).isSome)) (t : Int) (o : Option Int) (ho : busyB X t = o) :
    Calls Try.prog 11 #[.pointer (some ⟨bb, 0, none⟩), .int .i64 t] w fun e w' => e = .returned (busyV o) ∧ ∃ q, w' = w.drewN q := by
  by_cases ht : isT t = true
  · obtain ⟨h0, h8⟩ := isT_iff ht
    obtain ⟨j, rfl⟩ := Int.eq_ofNat_of_zero_le h0
    have hj : j < 8 := by omega
    have hv : X.d j = o := by rw [← ho]; unfold busyB; rw [if_pos ht, show ((j : Int)).toNat = j by omega]
    obtain ⟨hx, hy⟩ := hd j hj
    rw [hv] at hx hy
    have x0 := hx.1
    have x1 := hy.1
    have d8 : decide ((8 : Int) ≤ (j : Int)) = false := by simp; omega
    obtain ⟨n, hn⟩ : ∃ n, o.getD 0 = n := ⟨_, rfl⟩
    obtain ⟨b, hb⟩ : ∃ b, o.isSome = b := ⟨_, rfl⟩
    rw [hn] at x0; rw [hb] at x1
    have HV : Hid (busyV o = .tuple #[.int .i64 n, .bool b]) := Lib.hid (by unfold busyV; rw [hn, hb])
    clear hd hx hy hn hb hv ho ht
    go_enter Try.func11, Try.ntmps11
    go_wp2_with fail
    go_quiet (fail)
    go_wp2_with fail
    go_ret2
    exact ⟨ret_v HV.out.symm, _, rfl⟩
  · have hv : o = none := by rw [← ho]; unfold busyB; rw [if_neg ht]
    subst hv
    have HV : Hid (busyV none = .tuple #[.int .i64 0, .bool false]) := Lib.hid rfl
    by_cases h0 : t < 0
    · clear hd ho ht
      go_enter Try.func11, Try.ntmps11
      go_wp2_with fail
      go_ret2
      exact ⟨ret_v HV.out.symm, 0, rfl⟩
    · have d0 : decide (t < 0) = false := by simp; omega
      have d8 : decide (8 ≤ t) = true := by
        have : ¬ (t < 8) := fun h => ht (by unfold isT; simp; omega)
        simp; omega
      clear hd ho ht
      go_enter Try.func11, Try.ntmps11
      go_wp2_with fail
      go_ret2
      exact ⟨ret_v HV.out.symm, 0, rfl⟩
end Go.Proofs.Ytdfkmkflcnfchaa
