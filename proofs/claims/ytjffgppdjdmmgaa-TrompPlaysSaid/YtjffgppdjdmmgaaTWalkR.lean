/- Walking the reference's operations upon its Mem, the tree in hand: going on, or over. Own work. -/
import Derived.Test.YtjffgppdjdmmgaaTWalk
import Derived.Test.YtjffgppdjdmmgaaTVal
import Derived.Test.YtjffgppdjdmmgaaTRef2
import Derived.Test.YtjffgppdjdmmgaaTRefS
namespace Go.Proofs.Ytjffgppdjdmmgaa
open Go.ChangeShapes Go.WideShapes Go.ChangeAt Go.RowKit CellM TapeM

section
variable {w : World} {mb : Nat} {AA : Option Addr} {ac : Nat} {ans : List Int} {S : TS} {F : Nat → Prop}
theorem access_over (H : RT w mb true AA ac ans S F) (k cl v : Int) :
    Calls Try.prog 50 #[.pointer (some ⟨mb, 0, none⟩), .agg #[.int .i64 k, .int .i64 cl, .int .i64 v]] w fun e w' => e = .returned (.int .i64 0) ∧ RN w w' mb true AA ac ans S F := by
  have c2 := H.c2.1
  have hlt := H.lt
  have HN := Lib.hid (RN.of H (below_alloc w (.cells #[.int .i64 k, .int .i64 cl, .int .i64 v] 47)))
  clear H
  go_enter Try.func50, Try.ntmps50
  go_wp2_with fail
  go_ret
  exact ⟨rfl, HN.out⟩
theorem readR_over (H : RT w mb true AA ac ans S F) (cl : Int) :
    Calls Try.prog 35 #[.pointer (some ⟨mb, 0, none⟩), .int .i64 cl] w fun e w' => e = .returned (.int .i64 0) ∧ RN w w' mb true AA ac ans S F := by
  have HH := Lib.hid (access_over H 1 cl 0)
  go_enter Try.func35, Try.ntmps35
  go_wp2_with fail
  refine HH.out.mono ?_; rintro e w' ⟨rfl, hN⟩
  have HN := Lib.hid hN; clear hN
  go_wp2_with fail
  go_ret
  exact ⟨rfl, HN.out⟩
theorem writeR_over (H : RT w mb true AA ac ans S F) (cl v : Int) :
    Calls Try.prog 37 #[.pointer (some ⟨mb, 0, none⟩), .int .i64 cl, .int .i64 v] w fun e w' => e = .returned (.tuple #[]) ∧ RN w w' mb true AA ac ans S F := by
  have HH := Lib.hid (access_over H 2 cl v)
  go_enter Try.func37, Try.ntmps37
  go_wp2_with fail
  refine HH.out.mono ?_; rintro e w' ⟨rfl, hN⟩
  have HN := Lib.hid hN; clear hN
  go_wp2_with fail
  go_end0
  exact ⟨rfl, HN.out⟩
theorem RT.tight {ov : Bool} (H : RT w mb ov AA ac ans S F) : RT w mb ov AA ac ans S (fun b => F b ∧ b < w.heap.size) := by
  obtain ⟨a, ha, H⟩ := H
  exact ⟨a, ha, H.tight⟩
end
/-- Here the reference stands: t is still to be done, or it is over. -/
def NowR (C : Ctx) (wr : World) (K : Nat → Prop) (t : Tr Int) (R : Res) : Prop :=
  ∃ S G ov, Apart C wr K G ∧ RT wr C.mb ov C.AA C.ac C.ans S G ∧ ((ov = false ∧ Left C.ans t R S) ∨ (ov = true ∧ R = .stop S))
def GoesR {α : Type} (C : Ctx) (wx w' : World) (K : Nat → Prop) (mk : α → Value) (k : α → Tr Int) (R : Res) (e : Ending) : Prop := ∃ x, e = .returned (mk x) ∧ NowR C w' K (k x) R ∧ Keeps K wx w'
def DoesR {α : Type} (fn : FuncId) (args : Value → Array Value) (t : Tr α) (mk : α → Value) : Prop :=
  ∀ (C : Ctx) (wx : World) (K : Nat → Prop) (k : α → Tr Int) (R : Res), NowR C wx K (t.bind k) R → Calls Try.prog fn (args (.pointer (some ⟨C.mb, 0, none⟩))) wx fun e w' => GoesR C wx w' K mk k R e
section
variable {C : Ctx} {wr wx w' w2 : World} {K K' G : Nat → Prop} {t u : Tr Int} {R : Res}
theorem NowR.grow (H : NowR C wr K t R) (hb : Below wr.heap.size wr wx) : NowR C wx (Kx K wr wx) t R := by
  obtain ⟨S, G, ov, hA, hT, hL⟩ := H
  exact ⟨S, _, ov, hA.grow hb, hT.tight.grow hb, hL⟩
theorem NowR.less (H : NowR C wr K' t R) (hk : ∀ b, K b → K' b) : NowR C wr K t R := by
  obtain ⟨S, G, ov, hA, hT, hL⟩ := H
  exact ⟨S, G, ov, hA.less hk, hT, hL⟩
theorem NowR.klt (H : NowR C wr K t R) : ∀ b, K b → b < wr.heap.size := by
  obtain ⟨S, G, ov, hA, hT, hL⟩ := H
  exact hA.klt
theorem NowR.below (H : NowR C wr K t R) : Below C.base C.w wr := by
  obtain ⟨S, G, ov, hA, hT, hL⟩ := H
  exact hA.step.below C.base hA.ok.fb hA.ok.wb
theorem NowR.as (H : NowR C wr K t R) (h : t = u) : NowR C wr K u R := h ▸ H
/-- Over or not: the cell that says so; once it is over, nothing is to be done. -/
theorem NowR.over (H : NowR C wr K t R) : ∃ ov, Has wr ⟨C.mb, 2, none⟩ (.bool ov) ∧ (ov = true → ∀ u, NowR C wr K u R) := by
  obtain ⟨S, G, ov, hA, hT, hL⟩ := H
  refine ⟨ov, hT.c2, fun ho u => ⟨S, G, ov, hA, hT, .inr ⟨ho, ?_⟩⟩⟩
  rcases hL with ⟨h, _⟩ | ⟨_, h⟩
  · rw [h] at ho; cases ho
  · exact h
theorem NowR.call {α : Type} {fn : FuncId} {args : Value → Array Value} {s : Tr α} {mk : α → Value} {k : α → Tr Int} (H : NowR C wr K (s.bind k) R) (hd : DoesR fn args s mk) (hb : Below wr.heap.size wr wx) :
    Calls Try.prog fn (args (.pointer (some ⟨C.mb, 0, none⟩))) wx fun e w' => GoesR C wx w' (Kx K wr wx) mk k R e := hd C wx _ k R (H.grow hb)
theorem GoesR.less {α : Type} {mk : α → Value} {k : α → Tr Int} {e : Ending} (H : GoesR C wx w' K' mk k R e) (hk : ∀ b, K b → K' b) (h2 : Keeps K w2 wx) : GoesR C w2 w' K mk k R e := by
  obtain ⟨x, he, hN, hK⟩ := H
  exact ⟨x, he, hN.less hk, h2.trans (hK.less hk)⟩
/-- It has ended. -/
theorem NowR.fin {x : Int} (H : NowR C wr K (.ret x) R) : ∃ T ov, Has wr ⟨C.mb, 2, none⟩ (.bool ov) ∧ RN C.w wr C.mb ov C.AA C.ac C.ans T C.F ∧ ((ov = false ∧ R = .go T x) ∨ (ov = true ∧ R = .stop T)) := by
  obtain ⟨S, G, ov, hA, hT, hL⟩ := H
  have h2 := hT.c2
  obtain ⟨a, ha, hT⟩ := hT
  refine ⟨S, ov, h2, ⟨a, ha, hA.now hT⟩, ?_⟩
  rcases hL with ⟨h, hl⟩ | ⟨h, hr⟩
  · exact .inl ⟨h, hl.run.symm⟩
  · exact .inr ⟨h, hr⟩
theorem NowR.done {x : Int} (H : NowR C wr K (.ret x) R) : Has wr ⟨C.mb, 2, none⟩ (.bool (overR R)) ∧ RN C.w wr C.mb (overR R) C.AA C.ac C.ans R.st C.F ∧ (overR R = false → x = valR R) ∧ (overR R = true → valR R = 0) := by
  obtain ⟨T, ov, h2, hN, ⟨rfl, rfl⟩ | ⟨rfl, rfl⟩⟩ := H.fin
  · exact ⟨h2, hN, fun _ => rfl, fun h => (by cases h)⟩
  · exact ⟨h2, hN, fun h => (by cases h), fun _ => rfl⟩
theorem Apart.afterR {ov : Bool} {S : TS} (H : Apart C wx K G) (hN : RN wx w' C.mb ov C.AA C.ac C.ans S G) : Apart C w' K (More wx G) ∧ RT w' C.mb ov C.AA C.ac C.ans S (More wx G) ∧ Keeps K wx w' :=
  ⟨(H.after hN.step).1, hN.at_, (H.after hN.step).2⟩
theorem readR_does (cl : Int) : DoesR 35 (fun p => #[p, .int .i64 cl]) (Tr.ask ⟨1, cl, 0⟩ Tr.ret) (Value.int .i64) := by
  intro C wx K k R H
  obtain ⟨S, G, ov, hA, hT, ⟨rfl, hL⟩ | ⟨rfl, hL⟩⟩ := H
  · have hans := hA.ok.ans
    by_cases hg : S.acc.length < C.ans.length
    · refine (readR_go hT hg (by omega) cl _ rfl).mono ?_; rintro e w' ⟨rfl, hN⟩
      have h2 := hA.afterR hN
      obtain ⟨n, hn, hb⟩ := hL.nts
      exact ⟨_, rfl, ⟨_, _, _, h2.1, h2.2.1, .inl ⟨rfl, (asks_go hg _ _).symm.trans hL.run, by simp [askT]; omega, hL.loc, n, hn _, hb⟩⟩, h2.2.2⟩
    · refine (readR_stop hT hg (by have := hL.acc; omega) cl).mono ?_; rintro e w' ⟨rfl, hN⟩
      have h2 := hA.afterR hN
      exact ⟨_, rfl, ⟨_, _, _, h2.1, h2.2.1, .inr ⟨rfl, hL.run.symm.trans (asks_stop hg _ _)⟩⟩, h2.2.2⟩
  · refine (readR_over hT cl).mono ?_; rintro e w' ⟨rfl, hN⟩
    have h2 := hA.afterR hN
    exact ⟨_, rfl, ⟨_, _, _, h2.1, h2.2.1, .inr ⟨rfl, hL⟩⟩, h2.2.2⟩
theorem writeR_does (cl v : Int) : DoesR 37 (fun p => #[p, .int .i64 cl, .int .i64 v]) (Tr.ask ⟨2, cl, v⟩ fun _ => Tr.ret ()) (fun _ => .tuple #[]) := by
  intro C wx K k R H
  obtain ⟨S, G, ov, hA, hT, ⟨rfl, hL⟩ | ⟨rfl, hL⟩⟩ := H
  · have hans := hA.ok.ans
    by_cases hg : S.acc.length < C.ans.length
    · refine (writeR_go hT hg (by omega) cl v).mono ?_; rintro e w' ⟨rfl, hN⟩
      have h2 := hA.afterR hN
      obtain ⟨n, hn, hb⟩ := hL.nts
      exact ⟨(), rfl, ⟨_, _, _, h2.1, h2.2.1, .inl ⟨rfl, (asks_go hg _ _).symm.trans hL.run, by simp [askT]; omega, hL.loc, n, hn 0, hb⟩⟩, h2.2.2⟩
    · refine (writeR_stop hT hg (by have := hL.acc; omega) cl v).mono ?_; rintro e w' ⟨rfl, hN⟩
      have h2 := hA.afterR hN
      exact ⟨(), rfl, ⟨_, _, _, h2.1, h2.2.1, .inr ⟨rfl, hL.run.symm.trans (asks_stop hg _ _)⟩⟩, h2.2.2⟩
  · refine (writeR_over hT cl v).mono ?_; rintro e w' ⟨rfl, hN⟩
    have h2 := hA.afterR hN
    exact ⟨(), rfl, ⟨_, _, _, h2.1, h2.2.1, .inr ⟨rfl, hL⟩⟩, h2.2.2⟩
theorem setR_does (i v : Int) : DoesR 38 (fun p => #[p, .int .i64 i, .int .i64 v]) (Tr.set i v (Tr.ret ())) (fun _ => .tuple #[]) := by
  intro C wx K k R H
  obtain ⟨S, G, ov, hA, hT, ⟨rfl, hL⟩ | ⟨rfl, hL⟩⟩ := H
  · refine (setR_is hT hL.loc i v).mono ?_; rintro e w' ⟨rfl, hN⟩
    have h2 := hA.afterR hN
    exact ⟨(), rfl, ⟨_, _, _, h2.1, h2.2.1, .inl ⟨rfl, hL.run, hL.acc, setL_len _ _ _ hL.loc, hL.nts⟩⟩, h2.2.2⟩
  · refine (setR_over hT i v).mono ?_; rintro e w' ⟨rfl, hN⟩
    have h2 := hA.afterR hN
    exact ⟨(), rfl, ⟨_, _, _, h2.1, h2.2.1, .inr ⟨rfl, hL⟩⟩, h2.2.2⟩
theorem NowR.read {cl : Int} {k : Int → Tr Int} (H : NowR C wr K (Tr.ask ⟨1, cl, 0⟩ k) R) (hb : Below wr.heap.size wr wx) :
    Calls Try.prog 35 #[.pointer (some ⟨C.mb, 0, none⟩), .int .i64 cl] wx fun e w' => GoesR C wx w' (Kx K wr wx) (Value.int .i64) k R e := readR_does cl C wx (Kx K wr wx) k R (H.grow hb)
theorem NowR.write {cl v : Int} (H : NowR C wr K (Tr.ask ⟨2, cl, v⟩ fun _ => t) R) (hb : Below wr.heap.size wr wx) :
    Calls Try.prog 37 #[.pointer (some ⟨C.mb, 0, none⟩), .int .i64 cl, .int .i64 v] wx fun e w' => GoesR C wx w' (Kx K wr wx) (fun _ : Unit => .tuple #[]) (fun _ => t) R e := writeR_does cl v C wx (Kx K wr wx) (fun _ => t) R (H.grow hb)
theorem NowR.set {i v : Int} (H : NowR C wr K (Tr.set i v t) R) (hb : Below wr.heap.size wr wx) :
    Calls Try.prog 38 #[.pointer (some ⟨C.mb, 0, none⟩), .int .i64 i, .int .i64 v] wx fun e w' => GoesR C wx w' (Kx K wr wx) (fun _ : Unit => .tuple #[]) (fun _ => t) R e := setR_does i v C wx (Kx K wr wx) (fun _ => t) R (H.grow hb)
theorem NowR.get {i : Int} {k : Int → Tr Int} (H : NowR C wr K (Tr.get i k) R) : ∃ x, NowR C wr K (k x) R ∧ ∀ wx, Below wr.heap.size wr wx → Calls Try.prog 36 #[.pointer (some ⟨C.mb, 0, none⟩), .int .i64 i] wx fun e w' => e = .returned (.int .i64 x) ∧ wx = w' := by
  obtain ⟨S, G, ov, hA, hT, hL⟩ := H
  refine ⟨getL S.loc i, ⟨S, G, ov, hA, hT, ?_⟩, fun wx hx => getR_is (hT.grow hx) i _ rfl⟩
  rcases hL with ⟨h, hL⟩ | h
  · obtain ⟨n, hn, hb⟩ := hL.nts
    exact .inl ⟨h, hL.run, hL.acc, hL.loc, n, hn _, hb⟩
  · exact .inr h
end
/-- At the start. -/
theorem NowR.start {w : World} {base mb : Nat} {AA : Option Addr} {ac : Nat} {ans : List Int} {F : Nat → Prop} {S : TS} (H : RT w mb false AA ac ans S F) (hF : ∀ b, F b → base ≤ b) (hw : base ≤ w.heap.size) (t : Tr Int) (n : Nat) (hn : t.nb n)
    (ha : ans.length ≤ 90000) (hacc : S.acc.length ≤ ans.length) (hnts : S.nts.length + n ≤ 90000) (hloc : S.loc.length ≤ 32768) : NowR ⟨w, base, mb, AA, ac, ans, F⟩ w (fun b => b < base) t (t.run ans S) := by
  obtain ⟨a, ha2, A, h, c, HD⟩ := H
  exact ⟨S, F, false, ⟨⟨HD.more, ha, hF, hw⟩, Step.refl _ _, fun b h => .inl h, fun b hk hf => by have := hF b hf; omega, fun b hk => by omega⟩, ⟨a, ha2, A, h, c, HD⟩, .inl ⟨rfl, rfl, hacc, hloc, n, hn, hnts⟩⟩
end Go.Proofs.Ytjffgppdjdmmgaa
