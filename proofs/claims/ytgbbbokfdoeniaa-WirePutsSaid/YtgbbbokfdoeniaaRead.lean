/- Contracts of wire's reading calls and of the reference's. Own work. -/
import Derived.Test.YtgbbbokfdoeniaaPut
namespace Go.Proofs.Ytgbbbokfdoeniaa
open Go.ChangeShapes Go.WideShapes Go.ChangeAt Go.RowKit Wire

theorem ret_3 {a b c a' b' c' : Int} (h1 : a = a') (h2 : b = b') (h3 : c = c') : Ending.returned (.tuple #[.int .i64 a, .int .i64 b, .int .i64 c]) = .returned (.tuple #[.int .i64 a', .int .i64 b', .int .i64 c']) := by rw [h1, h2, h3]
theorem acc_eq {k m x : Nat} (hk : k ≤ 4) (hm : m < 128 ^ k) : wrap64 ((m : Int) + wrap64 ((x : Int) % 128 * 2 ^ (7 * k))) = ((m + x % 128 * 128 ^ k : Nat) : Int) := by
  have hp : 128 ^ k ≤ 268435456 := Nat.pow_le_pow_right (n := 128) (by decide) hk
  have e : (2 : Int) ^ (7 * k) = ((128 ^ k : Nat) : Int) := by rw [Int.pow_mul]; simp
  have hb : x % 128 * 128 ^ k ≤ 127 * 128 ^ k := Nat.mul_le_mul_right _ (by omega)
  have e2 : (x : Int) % 128 * ((128 ^ k : Nat) : Int) = ((x % 128 * 128 ^ k : Nat) : Int) := by rw [Int.natCast_mul]; congr 1
  rw [e, e2]
  generalize x % 128 * 128 ^ k = y at *
  generalize 128 ^ k = z at *
  unfold wrap64
  omega
theorem acc_more {k m x : Nat} (hk : k ≤ 4) (hm : m < 128 ^ k) (h0 : 128 ≤ x) (h1 : x < 256) : wrap64 ((m : Int) + wrap64 ((x : Int) % 128 * 2 ^ (7 * k))) = ((m + (x - 128) * 128 ^ k : Nat) : Int) := by
  rw [acc_eq hk hm, show x % 128 = x - 128 by omega]
theorem acc_last {k m x : Nat} (hk : k ≤ 4) (hm : m < 128 ^ k) (h1 : x < 128) : wrap64 ((m : Int) + wrap64 ((x : Int) % 128 * 2 ^ (7 * k))) = ((m + x * 128 ^ k : Nat) : Int) := by
  rw [acc_eq hk hm, show x % 128 = x by omega]
theorem acc_lt {k m x : Nat} (hm : m < 128 ^ k) (h0 : 128 ≤ x) (h1 : x < 256) : m + (x - 128) * 128 ^ k < 128 ^ (k + 1) := by
  have hb : (x - 128) * 128 ^ k ≤ 127 * 128 ^ k := Nat.mul_le_mul_right _ (by omega)
  rw [Nat.pow_succ]; omega
set_option maxHeartbeats 2000000 in
theorem front_any (B : Nat) (A : Option Addr) (c : Nat) (L : List UInt8) (v sz : Nat) (er : Int) (h : frontL 0 0 L = (v, sz, er)) (w : World) (hr : BR w B A c L) :
    Calls Try.prog 22 #[.slice A L.length c] w fun e w' => e = .returned (.tuple #[.int .i64 v, .int .i64 sz, .int .i64 er]) ∧ w = w' := by
  have R := Lib.hid hr
  have hm := hr.max
  unfold maxLen at hm
  clear hr
  go_enter Try.func22, Try.ntmps22
  go_wp2_with fail
  go_loop [5, 6, 7, 10] (fun n i x j => ∃ k m : Nat, k ≤ L.length ∧ k ≤ 5 ∧ m < 128 ^ k ∧ n = .int .i64 m ∧ j = .int .i64 k ∧ Hid (frontL k m (L.drop k) = (v, sz, er))) (fun _ _ _ j => L.length - (intOf j).toNat)
  case atStart => exact ⟨0, 0, Nat.zero_le _, by omega, by decide, rfl, rfl, by simpa [Hid] using h⟩
  case round =>
    obtain ⟨k, m, hk, hk5, hmk, rfl, rfl, hE⟩ := hrel
    by_cases hlt : k < L.length
    · obtain ⟨ad, rfl, _, hc⟩ := R.out.2.2.2 k hlt
      have hE' := hE.out
      rw [drop_cons L hlt] at hE'
      have E := Lib.hid hE'; clear hE hE'
      obtain ⟨x, hx⟩ : ∃ x, x = L[k] := ⟨_, rfl⟩
      rw [← hx] at hc E
      clear hx
      have hx := x.toNat_lt
      by_cases h5 : k = 5
      · have h5' : ((k : Int) == 5) = true := by simp; omega
        rw [h5] at E
        rw [front_five] at E
        obtain ⟨rfl, rfl, rfl⟩ : v = 0 ∧ sz = 0 ∧ er = 3 := by have := E.out; simp at this; omega
        clear E
        have H5 := Lib.hid h5; clear h5
        go_wp2_with fail
        go_ret3
        exact ⟨rfl, rfl⟩
      · have h5' : ((k : Int) == 5) = false := by simp; omega
        by_cases hm : 128 ≤ x.toNat
        · have hd : decide ((128 : Int) ≤ (x.toNat : Int)) = true := by simp; omega
          rw [front_more h5 hm] at E
          have H5 := Lib.hid h5; clear h5
          go_wp2_with fail
          go_round
          case rel => exact ⟨k + 1, _, by omega, by have := H5.out; omega, acc_lt hmk hm hx, by rw [acc_more (by have := H5.out; omega) hmk hm hx], by go_num, E⟩
          case measure => simp [intOf]; omega
        · have hd : decide ((128 : Int) ≤ (x.toNat : Int)) = false := by simp; omega
          by_cases h0 : x.toNat = 0
          · by_cases hk0 : 0 < k
            · rw [front_zero h5 h0 hk0] at E
              obtain ⟨rfl, rfl, rfl⟩ : v = 0 ∧ sz = 0 ∧ er = 3 := by have := E.out; simp at this; omega
              clear E
              have H5 := Lib.hid h5; clear h5
              have g0 : ((x.toNat : Int) == 0) = true := by simp; omega
              have g1 : decide ((0 : Int) < (k : Int)) = true := by simp; omega
              have H0 := Lib.hid h0; clear h0
              go_wp2_with fail
              go_ret3
              exact ⟨rfl, rfl⟩
            · rw [front_last h5 (by omega) (by omega)] at E
              obtain ⟨hv, hs, rfl⟩ : Hid (v = m + x.toNat * 128 ^ k) ∧ Hid (sz = k + 1) ∧ er = 0 := by have := E.out; simp at this; unfold Hid; omega
              clear E
              have H5 := Lib.hid h5; clear h5
              have g0 : ((x.toNat : Int) == 0) = true := by simp; omega
              have g1 : decide ((0 : Int) < (k : Int)) = false := by simp; omega
              have H0 := Lib.hid h0; clear h0
              have HK := Lib.hid hk0; clear hk0
              go_wp2_with fail
              go_ret3
              exact ⟨ret_3 (by rw [hv.out]; exact acc_last (by have := H5.out; omega) hmk (by omega)) (by rw [hs.out]; go_num) rfl, rfl⟩
          · rw [front_last h5 (by omega) (by omega)] at E
            obtain ⟨hv, hs, rfl⟩ : Hid (v = m + x.toNat * 128 ^ k) ∧ Hid (sz = k + 1) ∧ er = 0 := by have := E.out; simp at this; unfold Hid; omega
            clear E
            have H5 := Lib.hid h5; clear h5
            have g0 : ((x.toNat : Int) == 0) = false := by simp; omega
            have H0 := Lib.hid h0; clear h0
            go_wp2_with fail
            go_ret3
            exact ⟨ret_3 (by rw [hv.out]; exact acc_last (by have := H5.out; omega) hmk (by omega)) (by rw [hs.out]; go_num) rfl, rfl⟩
    · obtain rfl : k = L.length := by omega
      rw [List.drop_length, front_nil] at hE
      obtain ⟨rfl, rfl, rfl⟩ : v = 0 ∧ sz = 0 ∧ er = 4 := by have := hE.out; simp at this; omega
      clear hE
      go_wp2_with fail
      go_ret3
      exact ⟨rfl, rfl⟩

/-! blocks that are known whole -/
def Blk (w : World) (g : Nat) (t : TypeId) (cs : Array Value) : Prop := w.heap[g]? = some (.cells cs t (0, 0))
section
variable {w w' : World} {g : Nat} {t : TypeId} {cs : Array Value}
theorem Blk.lt (h : Blk w g t cs) : g < w.heap.size := (Array.getElem?_eq_some_iff.1 h).1
theorem Blk.cell (h : Blk w g t cs) (i : Nat) : w.cell? ⟨g, i, none⟩ = cs[i]? := cell_of_row w g i cs t (0, 0) h
theorem Blk.free (h : Blk w g t cs) (i : Nat) : w.frozen? ⟨g, i, none⟩ = false := frozen_of_row w g i cs t h
theorem Blk.put (h : Blk w g t cs) (i : Nat) (u : Value) : Blk (w.setCell ⟨g, i, none⟩ u) g t (cs.setIfInBounds i u) := heap_setCell_same w g i cs t u h
theorem Blk.new (w : World) (t : TypeId) (cs : Array Value) : Blk (w.alloc (.cells cs t)) w.heap.size t cs := heap_alloc_new w _
theorem Blk.below {B : Nat} (h : Blk w g t cs) (hb : Below B w w') (hg : g < B) : Blk w' g t cs := (hb.block g hg).trans h
theorem Blk.grown {row : Option Nat} (h : Blk w g t cs) (hb : w.grownBy w' row) (hg : some g ≠ row) : Blk w' g t cs := (hb.block g h.lt hg).trans h
end
theorem grown_refl (w : World) (row : Option Nat) : w.grownBy w row := ⟨rfl, rfl, rfl, Nat.le_refl _, fun _ _ _ => rfl⟩
theorem grown_put (w : World) (g i : Nat) (u : Value) : w.grownBy (w.setCell ⟨g, i, none⟩ u) (some g) :=
  ⟨rfl, rfl, rfl, by simp, fun k _ hk => heap_setCell_other w ⟨g, i, none⟩ k u (fun e => hk (by simp [e]))⟩
theorem grown_trans {a b c : World} {row : Option Nat} (h : a.grownBy b row) (k : b.grownBy c row) : a.grownBy c row :=
  ⟨k.os.trans h.os, k.tape.trans h.tape, k.output.trans h.output, Nat.le_trans h.size k.size, fun i hi hn => (k.block i (Nat.lt_of_lt_of_le hi h.size) hn).trans (h.block i hi hn)⟩
theorem BR.grown {w w' : World} {B c g : Nat} {A : Option Addr} {L : List UInt8} (h : BR w B A c L) (hg : w.grownBy w' (some g)) (hB : B ≤ g) : BR w' B A c L :=
  ⟨h.1, h.2.1, h.2.2.1, fun k hl => by
    obtain ⟨ad, e, hb, hc⟩ := h.2.2.2 k hl
    exact ⟨ad, e, hb, hg.cell hc (fun e => by have := Option.some.inj e; rw [add_block] at this; omega)⟩⟩
theorem below_grown {w w' : World} {B g : Nat} (h : w.grownBy w' (some g)) (hB : B ≤ g) (hw : B ≤ w.heap.size) : Below B w w' :=
  (Below.refl B w).grown h hw fun k hk => by cases hk; exact hB

/-- A Reader: what is left, its error. -/
def RAt (w : World) (g : Nat) (s : List UInt8) (e : Int) : Prop :=
  ∃ A c, Blk w g 49 #[.int .i64 e, .slice A s.length c] ∧ BR w g A c s ∧ (e ≠ 0 → s = [])
/-- The first error. -/
def firstE (e e2 : Int) : Int := if e = 0 then e2 else e
theorem firstE_zero (e2 : Int) : firstE 0 e2 = e2 := rfl
theorem firstE_err {e e2 : Int} (h : e ≠ 0) : firstE e e2 = e := if_neg h
theorem keep_any (g : Nat) (x : Value) (e e2 : Int) (w : World) (h : Blk w g 49 #[.int .i64 e, x]) :
    Calls Try.prog 21 #[.pointer (some ⟨g, 0, none⟩), .int .i64 e2] w fun r w' => r = .returned (.tuple #[]) ∧ Blk w' g 49 #[.int .i64 (firstE e e2), x] ∧ w.grownBy w' (some g) := by
  have c0 := h.cell 0
  have f0 := h.free 0
  have c0' : w.cell? ⟨g, 0, none⟩ = some (.int .i64 e) := c0
  clear c0
  have H := Lib.hid h; clear h
  by_cases he : e = 0
  · subst he
    go_enter Try.func21, Try.ntmps21
    go_wp2_with fail
    go_end0
    exact ⟨rfl, by rw [firstE_zero]; exact H.out.put 0 _, grown_put _ _ _ _⟩
  · have hd : (e == 0) = false := by simp; exact he
    have he' := Lib.hid he; clear he
    go_enter Try.func21, Try.ntmps21
    go_wp2_with fail
    go_end0
    exact ⟨rfl, by rw [firstE_err he'.out]; exact H.out, grown_refl _ _⟩

theorem failS_zero (s : List UInt8) (e : Int) : failS s e 0 = (s, e) := rfl
theorem failS_some (s : List UInt8) (e : Int) {e2 : Int} (h : e2 ≠ 0) : failS s e e2 = ([], firstE e e2) := by
  unfold failS firstE; rw [if_neg h]; split <;> rfl
theorem failS_inv {s : List UInt8} {e e2 : Int} (h : e ≠ 0 → s = []) : (failS s e e2).2 ≠ 0 → (failS s e e2).1 = [] := by
  unfold failS; repeat' split
  all_goals simp_all
theorem eq_false_of_ne {e : Int} (h : e ≠ 0) : (e == 0) = false := by simp; exact h
theorem fail_any (g : Nat) (s : List UInt8) (e e2 : Int) (w : World) (h : RAt w g s e) :
    Calls Try.prog 12 #[.pointer (some ⟨g, 0, none⟩), .int .i64 e2] w fun r w' => r = .returned (.tuple #[]) ∧ RAt w' g (failS s e e2).1 (failS s e e2).2 ∧ w.grownBy w' (some g) := by
  by_cases h2 : e2 = 0
  · subst h2
    have H := Lib.hid h; clear h
    go_enter Try.func12, Try.ntmps12
    go_wp2_with fail
    refine bodyPost_ret (results_none rfl _ _ _) rfl ?_
    exact ⟨rfl, H.out, grown_refl _ _⟩
  · have hd := eq_false_of_ne h2
    rw [failS_some s e h2]
    obtain ⟨A, c, hb, hr, hi⟩ := h
    have HI := Lib.hid hi; clear hi
    have HB := Lib.hid hb; clear hb
    have HR := Lib.hid hr; clear hr
    have h2' := Lib.hid h2; clear h2
    go_enter Try.func12, Try.ntmps12
    go_wp2_with fail
    refine (keep_any g _ e e2 w HB.out).mono ?_; rintro r w1 ⟨rfl, hb1, hg1⟩
    have f1 := hb1.free 1
    have c1 : w1.cell? ⟨g, 1, none⟩ = some (.slice A s.length c) := hb1.cell 1
    have B1 := Lib.hid hb1; clear hb1
    have G1 := Lib.hid hg1; clear hg1
    go_wp2_with fail
    go_end0
    exact ⟨rfl, ⟨none, 0, B1.out.put 1 _, BR.nil _ _, fun _ => rfl⟩, grown_trans G1.out (grown_put _ _ _ _)⟩
theorem fail_nil (e2 : Int) (w : World) :
    Calls Try.prog 12 #[.pointer none, .int .i64 e2] w fun r w' => r = .returned (.tuple #[]) ∧ w = w' := by
  go_enter Try.func12, Try.ntmps12
  go_wp2_with fail
  refine bodyPost_ret (results_none rfl _ _ _) rfl ?_
  exact ⟨rfl, rfl⟩
theorem left_any (g : Nat) (s : List UInt8) (e : Int) (w : World) (h : RAt w g s e) :
    Calls Try.prog 16 #[.pointer (some ⟨g, 0, none⟩)] w fun r w' => r = .returned (.int .i64 s.length) ∧ w = w' := by
  obtain ⟨A, c, hb, hr, hi⟩ := h
  have c1 : w.cell? ⟨g, 1, none⟩ = some (.slice A s.length c) := hb.cell 1
  clear hi hb hr
  go_enter Try.func16, Try.ntmps16
  go_wp2_with fail
  go_ret
  exact ⟨rfl, rfl⟩
theorem left_nil (w : World) : Calls Try.prog 16 #[.pointer none] w fun r w' => r = .returned (.int .i64 0) ∧ w = w' := by
  go_enter Try.func16, Try.ntmps16
  go_wp2_with fail
  go_ret
  exact ⟨rfl, rfl⟩
theorem err_any (g : Nat) (s : List UInt8) (e : Int) (w : World) (h : RAt w g s e) :
    Calls Try.prog 17 #[.pointer (some ⟨g, 0, none⟩)] w fun r w' => r = .returned (.int .i64 e) ∧ w = w' := by
  obtain ⟨A, c, hb, hr, hi⟩ := h
  have c1 : w.cell? ⟨g, 0, none⟩ = some (.int .i64 e) := hb.cell 0
  clear hi hb hr
  go_enter Try.func17, Try.ntmps17
  go_wp2_with fail
  go_ret
  exact ⟨rfl, rfl⟩
theorem err_nil (w : World) : Calls Try.prog 17 #[.pointer none] w fun r w' => r = .returned (.int .i64 2) ∧ w = w' := by
  go_enter Try.func17, Try.ntmps17
  go_wp2_with fail
  go_ret
  exact ⟨rfl, rfl⟩
theorem num_nil (n : Int) (w : World) : Calls Try.prog 14 #[.pointer none, .int .i64 n] w fun r w' => r = .returned (.int .i64 0) ∧ w = w' := by
  go_enter Try.func14, Try.ntmps14
  go_wp2_with fail
  go_ret
  exact ⟨rfl, rfl⟩
theorem newR_any (B : Nat) (A : Option Addr) (c : Nat) (L : List UInt8) (w : World) (h : BR w B A c L) (hl : L.length ≤ 140737488355328) :
    Calls Try.prog 11 #[.slice A L.length c] w fun r w' => ∃ g, r = .returned (.pointer (some ⟨g, 0, none⟩)) ∧ RAt w' g L 0 ∧ w.heap.size ≤ g ∧ g < w'.heap.size ∧ Below w.heap.size w w' := by
  have H := Lib.hid h; clear h
  go_enter Try.func11, Try.ntmps11
  go_wp2_with fail
  refine (clone_any B A c L w H.out hl).mono ?_; rintro e w1 ⟨v, rfl, hown, hb⟩
  obtain ⟨A1, c1, rfl, hr⟩ := hown.reads
  clear hown
  have R := Lib.hid hr; clear hr
  have hs := hb.size
  go_wp2_with fail
  go_ret
  exact ⟨_, rfl, ⟨A1, c1, Blk.new _ _ _, R.out.below (below_alloc w1 _), fun e => absurd rfl e⟩, hs, by simp, hb.alloc hs _⟩
end Go.Proofs.Ytgbbbokfdoeniaa
