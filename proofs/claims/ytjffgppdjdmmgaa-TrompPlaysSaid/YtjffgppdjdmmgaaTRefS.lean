/- The reference's Mem: Set. Own work. -/
import Derived.Test.YtjffgppdjdmmgaaTRef
import Derived.Test.YtjffgppdjdmmgaaTMem2
import Derived.Deep.LoopGhost
namespace Go.Proofs.Ytjffgppdjdmmgaa
open Go.ChangeShapes Go.WideShapes Go.ChangeAt Go.RowKit CellM TapeM

section
variable {w : World} {mb : Nat} {ov : Bool} {AA : Option Addr} {ac : Nat} {ans : List Int} {S : TS} {F : Nat → Prop}
theorem setR_over (H : RT w mb true AA ac ans S F) (i v : Int) :
    Calls Try.prog 38 #[.pointer (some ⟨mb, 0, none⟩), .int .i64 i, .int .i64 v] w fun e w' => e = .returned (.tuple #[]) ∧ RN w w' mb true AA ac ans S F := by
  have c2 := H.c2.1
  have HN := Lib.hid (RN.of H (Below.refl _ _))
  go_enter Try.func38, Try.ntmps38
  go_wp2_with fail
  first | go_end0 | refine bodyPost_ret (results_none rfl _ _ _) rfl ?_
  exact ⟨rfl, HN.out⟩
theorem one_nn (S : TS) (j : Nat) (hj : j < 3) : nn ⟨S.acc, S.nts, S.loc ++ [0]⟩ j = if j = 2 then S.loc.length + 1 else nn S j := by
  match j, hj with
  | 0, _ => rfl
  | 1, _ => rfl
  | 2, _ => simp [nn]
theorem one_xx (S : TS) (j : Nat) (hj : j < 3) : xx ⟨S.acc, S.nts, S.loc ++ [0]⟩ j = if j = 2 then valsI S.loc ++ [.int .i64 0] else xx S j := by
  match j, hj with
  | 0, _ => rfl
  | 1, _ => rfl
  | 2, _ => simp [xx, valsI]
theorem TAtD.one {w1 W : World} {v : Nat → Value} {A : Nat → Option Addr} {h c : Nat → Nat} (H : TAtD W mb v AA ac ans S F A h c) (hb : Below W.heap.size W w)
    {v' : Value} (hO : OntoK w w1 v' 1 (A 2) (h 2) (c 2) S.loc.length (valsI S.loc) [.int .i64 0]) :
    ∃ A' c', v' = .slice A' (S.loc.length + 1) c' ∧ Has w1 ⟨mb, 5, none⟩ (.slice (A 2) S.loc.length (c 2)) ∧ TNow W (w1.setCell ⟨mb, 5, none⟩ v') mb v AA ac ans ⟨S.acc, S.nts, S.loc ++ [0]⟩ F := by
  obtain ⟨⟨A', c', hv⟩, hh⟩ := H.spot hb (i := 2) (by decide) hO.onto
  exact ⟨A', c', hv, hh, TNow.before hb ((H.grow hb).app (i := 2) (by decide) hO.onto (fun j hj => one_nn S j hj) (fun j hj => one_xx S j hj)) H.more⟩
theorem pad_more (l : List Int) (j n : Nat) (hn : l.length + j = n) : l ++ List.replicate j 0 = padL l n := by
  unfold padL
  rw [show n - l.length = j by omega]
set_option maxHeartbeats 4000000 in
theorem setR_is (H : RT w mb false AA ac ans S F) (hs : S.loc.length ≤ 32768) (i v : Int) :
    Calls Try.prog 38 #[.pointer (some ⟨mb, 0, none⟩), .int .i64 i, .int .i64 v] w fun e w' => e = .returned (.tuple #[]) ∧ RN w w' mb false AA ac ans (setT S i v) F := by
  have c2 := H.c2.1
  by_cases h0 : i < 0
  · have hS : setT S i v = S := by unfold setT setL; rw [if_neg (by omega)]
    have HN := Lib.hid (RN.of H (Below.refl _ _))
    have HS := Lib.hid hS
    clear hS H
    go_enter Try.func38, Try.ntmps38
    go_wp2_with fail
    first | go_end0 | refine bodyPost_ret (results_none rfl _ _ _) rfl ?_
    rw [HS.out]
    exact ⟨rfl, HN.out⟩
  · by_cases h1 : 32767 < i
    · have hS : setT S i v = S := by unfold setT setL; rw [if_neg (by omega)]
      have HN := Lib.hid (RN.of H (Below.refl _ _))
      have HS := Lib.hid hS
      clear hS H
      go_enter Try.func38, Try.ntmps38
      go_wp2_with fail
      first | go_end0 | refine bodyPost_ret (results_none rfl _ _ _) rfl ?_
      rw [HS.out]
      exact ⟨rfl, HN.out⟩
    · obtain ⟨k, rfl⟩ := Int.eq_ofNat_of_zero_le (show 0 ≤ i by omega)
      have hk : k < 32768 := by omega
      have hmb := H.lt
      obtain ⟨at_, hat, hT⟩ := H
      obtain ⟨Vv, hVv⟩ : ∃ Vv, Vv = rv at_ false AA ans.length ac := ⟨_, rfl⟩
      rw [← hVv] at hT
      have HV := Lib.hid (And.intro hVv (fun h => hat h))
      have HT := Lib.hid (TNow.of hT (Below.refl _ _))
      clear hT hVv hat
      go_enter Try.func38, Try.ntmps38
      go_wp2_with fail
      go_loopg [] (k + 1 - S.loc.length) (fun m wr => ∃ j, j + m = k + 1 - S.loc.length ∧ Hid (TNow w wr mb Vv AA ac ans ⟨S.acc, S.nts, S.loc ++ List.replicate j 0⟩ F))
      case atStart => exact ⟨0, by omega, Lib.hid (by simpa using HT.out)⟩
      case round =>
        obtain ⟨j, hj, HR⟩ := hrel
        obtain ⟨A, h, c, hD⟩ := HR.out.at_
        obtain ⟨l, hl⟩ : ∃ l, l = S.loc ++ List.replicate j 0 := ⟨_, rfl⟩
        rw [← hl] at hD
        have hln : l.length = S.loc.length + j := by rw [hl]; simp
        have hmw : mb < wr.heap.size := hD.rows.p 0 (by decide) |>.lt
        have p5 : wr.cell? ⟨mb, 5, none⟩ = some (.slice (A 2) l.length (c 2)) := (hD.rows.p 2 (by decide)).1
        have p5a : ∀ o, (wr.alloc o).cell? ⟨mb, 5, none⟩ = some (.slice (A 2) l.length (c 2)) := fun o => (Has.alloc (hD.rows.p 2 (by decide)) o).1
        have HL2 := Lib.hid (show l ++ [0] = S.loc ++ List.replicate (j + 1) 0 by rw [hl, List.replicate_succ', List.append_assoc])
        cases gk with
        | zero =>
          have hkl : k < l.length := by omega
          have hd0 : ¬ ((l.length : Int) ≤ (k : Int)) := by omega
          obtain ⟨g5, hh⟩ := hD.place hkl
          rw [p5] at g5
          have hA : A 2 = some ⟨h 2, 0, none⟩ := by simp only [Option.some.injEq, Value.slice.injEq] at g5; exact g5.1
          rw [hA] at p5
          obtain ⟨x2, e2, f2⟩ : ∃ x, Has wr ⟨h 2, k, none⟩ x := ⟨_, hh⟩
          have hN2 := TNow.trans HR.out (by have := hD.setI hkl v; rw [hl] at this; exact this)
          have hS : setT S k v = ⟨S.acc, S.nts, (S.loc ++ List.replicate j 0).set k v⟩ := by
            unfold setT setL
            rw [if_pos (by omega)]
            by_cases hle : S.loc.length ≤ k
            · rw [pad_more S.loc j (k + 1) (by omega)]; simp
            · have : j = 0 := by omega
              subst this
              unfold padL
              rw [show (k : Int).toNat + 1 - S.loc.length = 0 by omega]; simp
          have HN := Lib.hid hN2
          have HS := Lib.hid hS
          clear hS hN2 hh g5 hD hA hl p5a HR hln
          go_wp2_with fail
          go_end0
          rw [HS.out]
          refine ⟨rfl, at_, fun _ => HV.out.2 (by trivial), ?_⟩
          rw [← HV.out.1]
          exact HN.out
        | succ m =>
          have hd0 : (l.length : Int) ≤ (k : Int) := by omega
          have HRw := Lib.hid (fun (wx : World) (hb : Below wr.heap.size wr wx) => (hD.rows.r 2 (by decide)).below hb)
          have HO := Lib.hid (fun (w2 w3 : World) (v' : Value) (hb : Below wr.heap.size wr w2) (hO : OntoK w2 w3 v' 1 (A 2) (h 2) (c 2) l.length (valsI l) [.int .i64 0]) => hD.one hb hO)
          have HONE : ∀ u ∈ [Value.int .i64 0], u.oneCell' = true := by intro u hu; simp at hu; subst hu; rfl
          clear hD hl hln
          go_wp2_with (at_builtin; refine app_k rfl _ _ 24 3 rfl 1 (.int .i64 0) 8 underI infoInt rfl (by decide) (by decide) (HRw.out _ (below_alloc _ _)) (by show l.length ≤ 100000; omega) rfl ⟨_, 0, none⟩ rfl rfl HONE (news_at _ [.int .i64 0] _ _ rfl) ?_)
          intro v' w3 hO
          obtain ⟨A', c', rfl, hh, hN⟩ := HO.out _ _ _ (below_alloc _ _) hO
          have e1 := hh.1
          have f1 := hh.2
          rw [HL2.out] at hN
          have HN := Lib.hid (TNow.trans HR.out hN)
          clear hO hN hh
          go_wp2_with fail
          go_roundg m
          case measure => omega
          case rel => exact ⟨j + 1, by omega, HN⟩
end
end Go.Proofs.Ytjffgppdjdmmgaa
