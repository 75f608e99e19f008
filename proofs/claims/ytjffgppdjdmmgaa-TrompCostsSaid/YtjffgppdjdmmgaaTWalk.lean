/- Walking an operation upon tape's Mem with its tree in hand. Own work. -/
import Derived.Test.YtjffgppdjdmmgaaTDoB
import Derived.Test.YtjffgppdjdmmgaaTGet
import Derived.Test.YtjffgppdjdmmgaaTTree
namespace Go.Proofs.Ytjffgppdjdmmgaa
open Go.ChangeShapes Go.WideShapes Go.ChangeAt Go.RowKit CellM TapeM

/-- Where an operation is played: its Mem at mb, the answers, the Mem's blocks at the start. -/
structure Ctx where
  w : World
  base : Nat
  mb : Nat
  AA : Option Addr
  ac : Nat
  ans : List Int
  F : Nat → Prop
/-- What was not there, and what K holds. -/
def Kx (K : Nat → Prop) (wr wx : World) : Nat → Prop := fun b => K b ∨ (wr.heap.size ≤ b ∧ b < wx.heap.size)
/-- K's cells stay. -/
def Keeps (K : Nat → Prop) (w w' : World) : Prop := ∀ p x, K p.block → Has w p x → Has w' p x
structure CtxOk (C : Ctx) : Prop where
  rf : ∀ ad, C.AA = some ad → C.ans ≠ [] → ¬ More C.w C.F ad.block
  ans : C.ans.length ≤ 90000
  fb : ∀ b, C.F b → C.base ≤ b
  wb : C.base ≤ C.w.heap.size
/-- The Mem's blocks are G, K's are none of them. -/
structure Apart (C : Ctx) (wr : World) (K G : Nat → Prop) : Prop where
  ok : CtxOk C
  step : Step C.F C.w wr
  sub : ∀ b, G b → More C.w C.F b
  dis : ∀ b, K b → ¬ G b
  klt : ∀ b, K b → b < wr.heap.size
/-- What is still to be done of an operation that goes on. -/
structure Left (ans : List Int) (t : Tr Int) (R : Res) (S : TS) : Prop where
  run : t.run ans S = R
  acc : S.acc.length ≤ ans.length
  loc : S.loc.length ≤ 32768
  nts : ∃ n, t.nb n ∧ S.nts.length + n ≤ 90000
/-- Here the operation stands: t is still to be done, R comes of it. -/
def Now (C : Ctx) (wr : World) (K : Nat → Prop) (t : Tr Int) (R : Res) : Prop := ∃ S G, Apart C wr K G ∧ PT wr C.mb 1 C.AA C.ac C.ans S G ∧ Left C.ans t R S
def Stops (C : Ctx) (R : Res) (w' : World) : Prop := ∃ T, R = .stop T ∧ PN C.w w' C.mb 2 C.AA C.ac C.ans T C.F
/-- How a call ends that does some of it. -/
def Goes {α : Type} (C : Ctx) (wx w' : World) (K : Nat → Prop) (mk : α → Value) (k : α → Tr Int) (R : Res) (e : Ending) : Prop :=
  (∃ x, e = .returned (mk x) ∧ Now C w' K (k x) R ∧ Keeps K wx w') ∨ (e = .panicked [{ v := stopV C.mb, recovered := false }] ∧ Stops C R w')
/-- The function does what the tree says. -/
def Does {α : Type} (fn : FuncId) (args : Value → Array Value) (t : Tr α) (mk : α → Value) : Prop :=
  ∀ (C : Ctx) (wx : World) (K : Nat → Prop) (k : α → Tr Int) (R : Res), Now C wx K (t.bind k) R → Calls Try.prog fn (args (.pointer (some ⟨C.mb, 0, none⟩))) wx fun e w' => Goes C wx w' K mk k R e
section
variable {C : Ctx} {wr wx w' w2 : World} {K K' G : Nat → Prop} {t u : Tr Int} {R : Res}
theorem Keeps.refl (K : Nat → Prop) (w : World) : Keeps K w w := fun _ _ _ h => h
theorem Keeps.trans (h : Keeps K wr wx) (h' : Keeps K wx w') : Keeps K wr w' := fun p x hp hx => h' p x hp (h p x hp hx)
theorem Keeps.less (h : Keeps K' wr wx) (hk : ∀ b, K b → K' b) : Keeps K wr wx := fun p x hp hx => h p x (hk _ hp) hx
theorem Keeps.below (hb : Below wr.heap.size wr wx) : Keeps K wr wx := fun _ _ _ hx => hx.below hb hx.lt
theorem Apart.grow (H : Apart C wr K G) (hb : Below wr.heap.size wr wx) : Apart C wx (Kx K wr wx) (fun b => G b ∧ b < wr.heap.size) :=
  ⟨H.ok, H.step.trans (.of_below hb), fun b hg => H.sub b hg.1, fun b hk hg => by
    rcases hk with hk | hk
    · exact H.dis b hk hg.1
    · have := hg.2; omega, fun b hk => by
    rcases hk with hk | hk
    · exact Nat.lt_of_lt_of_le (H.klt b hk) hb.size
    · exact hk.2⟩
theorem Apart.after (H : Apart C wx K G) (hs : Step G wx w') : Apart C w' K (More wx G) ∧ Keeps K wx w' :=
  ⟨⟨H.ok, H.step.trans' hs (fun b hb => H.sub b hb), fun b hg => by
    rcases hg with hg | hg
    · exact H.sub b hg
    · exact .inr (Nat.le_trans H.step.kept.size hg), fun b hk hg => by
    rcases hg with hg | hg
    · exact H.dis b hk hg
    · have := H.klt b hk; omega, fun b hk => Nat.lt_of_lt_of_le (H.klt b hk) hs.kept.size⟩, fun p x hp hx => hs.kept.has p x hx (H.dis _ hp)⟩
theorem Apart.less (H : Apart C wr K' G) (hk : ∀ b, K b → K' b) : Apart C wr K G := ⟨H.ok, H.step, H.sub, fun b h => H.dis b (hk b h), fun b h => H.klt b (hk b h)⟩
theorem TAt.more {w : World} {mb : Nat} {v : Nat → Value} {AA : Option Addr} {ac : Nat} {ans : List Int} {S : TS} {G F : Nat → Prop} (H : TAt w mb v AA ac ans S G) (hg : ∀ b, G b → F b) (hrf : ∀ ad, AA = some ad → ans ≠ [] → ¬ F ad.block) : TAt w mb v AA ac ans S F := by
  obtain ⟨A, h, c, H⟩ := H
  exact ⟨A, h, c, H.hd, H.ri, hrf, H.rows.mono hg⟩
theorem Apart.now {v : Nat → Value} {S : TS} (H : Apart C wr K G) (hT : TAt wr C.mb v C.AA C.ac C.ans S G) : TNow C.w wr C.mb v C.AA C.ac C.ans S C.F := ⟨hT.more H.sub H.ok.rf, H.step⟩
theorem Apart.stop {v : Nat → Value} {S : TS} (H : Apart C wx K G) (hN : TNow wx w' C.mb v C.AA C.ac C.ans S G) : TNow C.w w' C.mb v C.AA C.ac C.ans S C.F := (H.after hN.step).1.now hN.at_
theorem Now.grow (H : Now C wr K t R) (hb : Below wr.heap.size wr wx) : Now C wx (Kx K wr wx) t R := by
  obtain ⟨S, G, hA, hT, hL⟩ := H
  exact ⟨S, _, hA.grow hb, (TAt.tight hT).grow hb, hL⟩
theorem Now.less (H : Now C wr K' t R) (hk : ∀ b, K b → K' b) : Now C wr K t R := by
  obtain ⟨S, G, hA, hT, hL⟩ := H
  exact ⟨S, G, hA.less hk, hT, hL⟩
theorem Now.klt (H : Now C wr K t R) : ∀ b, K b → b < wr.heap.size := by
  obtain ⟨S, G, hA, hT, hL⟩ := H
  exact hA.klt
theorem Now.below (H : Now C wr K t R) : Below C.base C.w wr := by
  obtain ⟨S, G, hA, hT, hL⟩ := H
  exact hA.step.below C.base hA.ok.fb hA.ok.wb
theorem Now.as (H : Now C wr K t R) (h : t = u) : Now C wr K u R := h ▸ H
theorem Now.call {α : Type} {fn : FuncId} {args : Value → Array Value} {s : Tr α} {mk : α → Value} {k : α → Tr Int} (H : Now C wr K (s.bind k) R) (hd : Does fn args s mk) (hb : Below wr.heap.size wr wx) :
    Calls Try.prog fn (args (.pointer (some ⟨C.mb, 0, none⟩))) wx fun e w' => Goes C wx w' (Kx K wr wx) mk k R e := hd C wx _ k R (H.grow hb)
/-- It has ended. -/
theorem Now.fin {x : Int} (H : Now C wr K (.ret x) R) : ∃ T, R = .go T x ∧ PN C.w wr C.mb 1 C.AA C.ac C.ans T C.F := by
  obtain ⟨S, G, hA, hT, hL⟩ := H
  exact ⟨S, hL.run.symm, hA.now hT⟩
theorem Goes.ends {e : Ending} (H : Goes C wx w' K (Value.int .i64) Tr.ret R e) : Ends R (Value.int .i64) C.w w' C.mb C.AA C.ac C.ans C.F e := by
  rcases H with ⟨x, rfl, hN, _⟩ | ⟨rfl, T, rfl, hN⟩
  · obtain ⟨T, rfl, hP⟩ := hN.fin
    exact ⟨rfl, hP⟩
  · exact ⟨rfl, hN⟩
/-- The call's own variables are gone. -/
theorem Goes.less {α : Type} {mk : α → Value} {k : α → Tr Int} {e : Ending} (H : Goes C wx w' K' mk k R e) (hk : ∀ b, K b → K' b) (h2 : Keeps K w2 wx) : Goes C w2 w' K mk k R e := by
  rcases H with ⟨x, he, hN, hK⟩ | H
  · exact .inl ⟨x, he, hN.less hk, h2.trans (hK.less hk)⟩
  · exact .inr H
theorem read_does (cl : Int) : Does 30 (fun p => #[p, .int .i64 cl]) (Tr.ask ⟨1, cl, 0⟩ Tr.ret) (Value.int .i64) := by
  intro C wx K k R H
  obtain ⟨S, G, hA, hT, hL⟩ := H
  have hans := hA.ok.ans
  by_cases hg : S.acc.length < C.ans.length
  · refine (readM_go hT hg (by omega) cl _ rfl).mono ?_; rintro e w' ⟨rfl, hN⟩
    have h2 := hA.after hN.step
    obtain ⟨n, hn, hb⟩ := hL.nts
    exact .inl ⟨_, rfl, ⟨_, _, h2.1, hN.at_, (asks_go hg _ _).symm.trans hL.run, by simp [askT]; omega, hL.loc, n, hn _, hb⟩, h2.2⟩
  · refine (readM_stop hT hg (by have := hL.acc; omega) cl).mono ?_; rintro e w' ⟨rfl, hN⟩
    exact .inr ⟨rfl, _, hL.run.symm.trans (asks_stop hg _ _), hA.stop hN⟩
theorem write_does (cl v : Int) : Does 49 (fun p => #[p, .int .i64 cl, .int .i64 v]) (Tr.ask ⟨2, cl, v⟩ fun _ => Tr.ret ()) (fun _ => .tuple #[]) := by
  intro C wx K k R H
  obtain ⟨S, G, hA, hT, hL⟩ := H
  have hans := hA.ok.ans
  by_cases hg : S.acc.length < C.ans.length
  · refine (writeM_go hT hg (by omega) cl v).mono ?_; rintro e w' ⟨rfl, hN⟩
    have h2 := hA.after hN.step
    obtain ⟨n, hn, hb⟩ := hL.nts
    exact .inl ⟨(), rfl, ⟨_, _, h2.1, hN.at_, (asks_go hg _ _).symm.trans hL.run, by simp [askT]; omega, hL.loc, n, hn 0, hb⟩, h2.2⟩
  · refine (writeM_stop hT hg (by have := hL.acc; omega) cl v).mono ?_; rintro e w' ⟨rfl, hN⟩
    exact .inr ⟨rfl, _, hL.run.symm.trans (asks_stop hg _ _), hA.stop hN⟩
theorem get_does (i : Int) : Does 29 (fun p => #[p, .int .i64 i]) (Tr.get i Tr.ret) (Value.int .i64) := by
  intro C wx K k R H
  obtain ⟨S, G, hA, hT, hL⟩ := H
  refine (getM_is hT i _ rfl).mono ?_; rintro e w' ⟨rfl, rfl⟩
  obtain ⟨n, hn, hb⟩ := hL.nts
  exact .inl ⟨_, rfl, ⟨_, _, hA, hT, hL.run, hL.acc, hL.loc, n, hn _, hb⟩, Keeps.refl _ _⟩
theorem set_does (i v : Int) : Does 48 (fun p => #[p, .int .i64 i, .int .i64 v]) (Tr.set i v (Tr.ret ())) (fun _ => .tuple #[]) := by
  intro C wx K k R H
  obtain ⟨S, G, hA, hT, hL⟩ := H
  refine (setM_is hT hL.loc i v).mono ?_; rintro e w' ⟨rfl, hN⟩
  have h2 := hA.after hN.step
  exact .inl ⟨(), rfl, ⟨_, _, h2.1, hN.at_, hL.run, hL.acc, setL_len _ _ _ hL.loc, hL.nts⟩, h2.2⟩
theorem Now.read {cl : Int} {k : Int → Tr Int} (H : Now C wr K (Tr.ask ⟨1, cl, 0⟩ k) R) (hb : Below wr.heap.size wr wx) :
    Calls Try.prog 30 #[.pointer (some ⟨C.mb, 0, none⟩), .int .i64 cl] wx fun e w' => Goes C wx w' (Kx K wr wx) (Value.int .i64) k R e := read_does cl C wx (Kx K wr wx) k R (H.grow hb)
theorem Now.write {cl v : Int} (H : Now C wr K (Tr.ask ⟨2, cl, v⟩ fun _ => t) R) (hb : Below wr.heap.size wr wx) :
    Calls Try.prog 49 #[.pointer (some ⟨C.mb, 0, none⟩), .int .i64 cl, .int .i64 v] wx fun e w' => Goes C wx w' (Kx K wr wx) (fun _ : Unit => .tuple #[]) (fun _ => t) R e := write_does cl v C wx (Kx K wr wx) (fun _ => t) R (H.grow hb)
theorem Now.set {i v : Int} (H : Now C wr K (Tr.set i v t) R) (hb : Below wr.heap.size wr wx) :
    Calls Try.prog 48 #[.pointer (some ⟨C.mb, 0, none⟩), .int .i64 i, .int .i64 v] wx fun e w' => Goes C wx w' (Kx K wr wx) (fun _ : Unit => .tuple #[]) (fun _ => t) R e := set_does i v C wx (Kx K wr wx) (fun _ => t) R (H.grow hb)
/-- A get that reads only: the value stands before the call. -/
theorem Now.get {i : Int} {k : Int → Tr Int} (H : Now C wr K (Tr.get i k) R) : ∃ x, Now C wr K (k x) R ∧ ∀ wx, Below wr.heap.size wr wx → Calls Try.prog 29 #[.pointer (some ⟨C.mb, 0, none⟩), .int .i64 i] wx fun e w' => e = .returned (.int .i64 x) ∧ wx = w' := by
  obtain ⟨S, G, hA, hT, hL⟩ := H
  obtain ⟨n, hn, hb⟩ := hL.nts
  exact ⟨getL S.loc i, ⟨S, G, hA, hT, hL.run, hL.acc, hL.loc, n, hn _, hb⟩, fun wx hx => getM_is (TAt.grow hT hx) i _ rfl⟩
end
/-- At the start of a play. -/
theorem Now.start {w : World} {base mb : Nat} {AA : Option Addr} {ac : Nat} {ans : List Int} {F : Nat → Prop} {S : TS} (H : PT w mb 1 AA ac ans S F) (hF : ∀ b, F b → base ≤ b) (hw : base ≤ w.heap.size) (t : Tr Int) (n : Nat) (hn : t.nb n)
    (ha : ans.length ≤ 90000) (hacc : S.acc.length ≤ ans.length) (hnts : S.nts.length + n ≤ 90000) (hloc : S.loc.length ≤ 32768) : Now ⟨w, base, mb, AA, ac, ans, F⟩ w (fun b => b < base) t (t.run ans S) :=
  ⟨S, F, ⟨⟨PT.more H, ha, hF, hw⟩, Step.refl _ _, fun b h => .inl h, fun b hk hf => by have := hF b hf; omega, fun b hk => by omega⟩, H, rfl, hacc, hloc, n, hn, hnts⟩
end Go.Proofs.Ytjffgppdjdmmgaa
