/- UnaryBack: its plays. Own work. -/
import Derived.Test.YthijoklafbnhlaaUnA
import Derived.Test.YthijoklafbnhlaaZero
import Derived.StillTailTactics
namespace Go.Proofs.Ythijoklafbnhlaa
open Go.ChangeShapes Go.WideShapes Go.ChangeAt Go.RowKit CellM TapeM

theorem enterB1 (args : Array Value) (w : World) : (callFunc 19 args).run Try.prog w = .ok (.enter 19 args) w := enters Try.func19 (by kernel_rfl) rfl args w
theorem enterB2 (args : Array Value) (w : World) : (callFunc 20 args).run Try.prog w = .ok (.enter 20 args) w := enters Try.func20 (by kernel_rfl) rfl args w
/-- The 256 cells that are told what is written. -/
structure CellsAt (w : World) (cb : Nat) (c : List Int) : Prop where
  len : c.length = 256
  at_ : ∀ i : Nat, i < 256 → Has w ⟨cb, i, none⟩ (.int .i64 (c.getD i 0))
section
variable {w w' : World} {cb : Nat} {c : List Int}
theorem CellsAt.new (w : World) : CellsAt (w.alloc (.cells (zeroCells 256) 3)) w.heap.size (List.replicate 256 0) :=
  ⟨List.length_replicate, fun i hi => by
    have e : (List.replicate 256 (0 : Int)).getD i 0 = 0 := by rw [List.getD_eq_getElem?_getD, List.getElem?_replicate]; split <;> rfl
    rw [e]
    refine has_new w _ _ i _ ?_
    unfold zeroCells
    rw [List.getElem?_toArray, List.map_replicate, List.getElem?_replicate, if_pos hi]⟩
theorem CellsAt.grow (h : CellsAt w cb c) (hb : Below w.heap.size w w') : CellsAt w' cb c := ⟨h.len, fun i hi => (h.at_ i hi).below hb (h.at_ i hi).lt⟩
theorem CellsAt.ri (h : CellsAt w cb c) : RI w (some ⟨cb, 0, none⟩) 256 c :=
  ⟨by rw [h.len]; exact Nat.le_refl _, by unfold maxLen; omega, fun e => by (cases e), fun k hk => by
    have hk2 : k < 256 := by rw [← h.len]; exact hk
    refine ⟨⟨cb, 0, none⟩, rfl, ?_⟩
    have := (h.at_ k hk2).1
    rw [List.getD_eq_getElem?_getD, List.getElem?_eq_getElem hk] at this
    rw [show (⟨cb, 0, none⟩ : Addr).add k = ⟨cb, k, none⟩ by unfold Addr.add; split <;> simp_all]
    exact this⟩
theorem CellsAt.set (h : CellsAt w cb c) {i : Nat} (hi : i < 256) (v : Int) : CellsAt (w.setCell ⟨cb, i, none⟩ (.int .i64 v)) cb (c.set i v) :=
  ⟨by rw [List.length_set]; exact h.len, fun j hj => by
    rw [getD_set c i j v (by rw [h.len]; exact hi)]
    by_cases e : i = j
    · subst e; rw [if_pos rfl]; exact (h.at_ i hi).same
    · rw [if_neg e]; exact (h.at_ j hj).other (fun e2 => e (by simp only [Addr.mk.injEq] at e2; omega))⟩
end
theorem backW_is {C : Ctx} {K : Nat → Prop} {R : Res} (Al : Option Addr) (cl m j : Nat) (L : List Int) (hm : L.length = m) (hj : j < L.length) (tp : Int) (b1 b2 b3 : Nat) (h2 : BoxAt C.w b2 #[.int .i64 3, .int .i64 0, .int .i64 0, .int .i64 0, .int .i64 0, .int .i64 0, .int .i64 tp])
    (h1 : Has C.w ⟨b1, 0, none⟩ (.slice Al m cl)) (h3 : Has C.w ⟨b3, 0, none⟩ (.int .i64 j)) (hL : RI C.w Al cl L) (H : Now C C.w K (oneW 0 0 tp L[j]) R) :
    Calls Try.prog 19 #[.pointer (some ⟨C.mb, 0, none⟩), .pointer (some ⟨b2, 0, none⟩), .pointer (some ⟨b1, 0, none⟩), .pointer (some ⟨b3, 0, none⟩)] C.w fun e w' => Goes C C.w w' K (Value.int .i64) Tr.ret R e := by
  subst hm
  have x1 := h1.1
  have x3 := h3.1
  have y0 := (h2 0 _ rfl).1
  have y1 := (h2 1 _ rfl).1
  have y2 := (h2 2 _ rfl).1
  have y3 := (h2 3 _ rfl).1
  have y4 := (h2 4 _ rfl).1
  have y5 := (h2 5 _ rfl).1
  have y6 := (h2 6 _ rfl).1
  have hmx := hL.max
  unfold maxLen at hmx
  obtain ⟨ad, rfl, xc⟩ := hL.at_ hj
  obtain ⟨z, hz⟩ : ∃ z, z = L[j] := ⟨_, rfl⟩
  rw [← hz] at xc H
  have HM := Lib.hid (H.call (wrUn_does 3 0 0 0 0 0 tp z near0) ((Below.refl _ _).drew))
  have HK0 := Lib.hid (Keeps.below (K := K) ((Below.refl C.w.heap.size C.w).drew))
  have hj0 : (0 : Int) ≤ (j : Int) := by omega
  have hj1 : (j : Int) < (L.length : Int) := by omega
  clear h1 h2 h3 H hL hz
  go_enter Try.func19, Try.ntmps19
  go_wp2_with fail
  go_still_tail 6, (by kernel_rfl)
  change wpList _ _ _ _ _ C.w.drew
  go_wp2_with fail
  refine HM.out.mono ?_
  rintro e w1 (⟨x, rfl, hN, hK⟩ | ⟨rfl, hs⟩)
  · have HF := Lib.hid (And.intro (hN.less (K := K) (fun b h => .inl h)) (HK0.out.trans (hK.less (K := K) (fun b h => .inl h))))
    clear hN hK
    go_wp2_with fail
    go_ret
    exact .inl ⟨0, rfl, HF.out.1, HF.out.2⟩
  · exact ⟨rfl, .inr ⟨rfl, hs⟩⟩
theorem backR_is {C : Ctx} {K : Nat → Prop} {R : Res} (tp : Int) (b2 : Nat) (h2 : BoxAt C.w b2 #[.int .i64 3, .int .i64 0, .int .i64 0, .int .i64 0, .int .i64 0, .int .i64 0, .int .i64 tp]) (H : Now C C.w K (oneR 0 tp) R) :
    Calls Try.prog 20 #[.pointer (some ⟨C.mb, 0, none⟩), .pointer (some ⟨b2, 0, none⟩)] C.w fun e w' => Goes C C.w w' K (Value.int .i64) Tr.ret R e := by
  have y0 := (h2 0 _ rfl).1
  have y1 := (h2 1 _ rfl).1
  have y2 := (h2 2 _ rfl).1
  have y3 := (h2 3 _ rfl).1
  have y4 := (h2 4 _ rfl).1
  have y5 := (h2 5 _ rfl).1
  have y6 := (h2 6 _ rfl).1
  have HM := Lib.hid (H.call (rdUn_does 3 0 0 0 0 0 tp near0) (Below.refl _ _))
  clear h2 H
  go_enter Try.func20, Try.ntmps20
  go_wp2_with fail
  refine HM.out.mono ?_
  rintro e w1 (⟨x, rfl, hN, hK⟩ | ⟨rfl, hs⟩)
  · have HF := Lib.hid (And.intro (hN.less (K := K) (fun b h => .inl h)) (hK.less (K := K) (fun b h => .inl h)))
    clear hN hK
    go_wp2_with fail
    go_ret
    exact .inl ⟨x, rfl, HF.out.1, HF.out.2⟩
  · exact ⟨rfl, .inr ⟨rfl, hs⟩⟩
/-- What the write leaves: its accesses and its locals, whatever becomes of what lay before. -/
def Left12 (w' : World) (B : Nat) (A1 A3 : Option Addr) (c1 c3 : Nat) (aa : List Ac) (lo : List Int) : Prop :=
  ∀ w'', Kept (fun p => p.block < B) w' w'' → (∃ g, RowK w'' 3 A1 g c1 aa.length (flatAc aa)) ∧ RI w'' A3 c3 lo
theorem left_of {w' : World} {B : Nat} {A1 A2 A3 : Option Addr} {c1 c2 c3 : Nat} {T : TS} (h : OutB w' B (outV true A1 A2 A3 T.acc.length T.nts.length (shN T.loc) c1 c2 c3) true T) : Left12 w' B A1 A3 c1 c3 T.acc (short T.loc) := fun w'' hk => by
  obtain ⟨P1, P2, P3, g1, g2, d1, d2, d3, he, hD⟩ := h w'' hk
  unfold outV at he
  simp only [Value.agg.injEq, Array.mk.injEq, List.cons.injEq, Value.slice.injEq] at he
  obtain ⟨_, ⟨rfl, _, rfl⟩, _, ⟨rfl, _, rfl⟩, _⟩ := he
  exact ⟨⟨_, hD.r1⟩, hD.r3⟩
theorem playW_is {w : World} {A0 A1 AA : Option Addr} {c0 c1 n0 : Nat} {L lo c : List Int} (b1 b2 b3 j : Nat) (hn0 : L.length = n0) (hj : j < L.length) (tp : Int) (ht0 : 0 ≤ tp) (ht1 : tp ≤ 255) (x : Nat) (hx : cap tp L[j] = (x : Int))
    (hM : Mirror lo c) (hA : RI w A0 c0 L) (hl : RI w A1 c1 lo) (hr : RI w AA 256 (List.replicate 256 0)) (hb1 : Has w ⟨b1, 0, none⟩ (.slice A0 n0 c0)) (hb3 : Has w ⟨b3, 0, none⟩ (.int .i64 j))
    (hb2 : BoxAt w b2 #[.int .i64 3, .int .i64 0, .int .i64 0, .int .i64 0, .int .i64 0, .int .i64 0, .int .i64 tp]) :
    Calls Try.prog 7 #[.func (.func 19) #[] #[.pointer (some ⟨b2, 0, none⟩), .pointer (some ⟨b1, 0, none⟩), .pointer (some ⟨b3, 0, none⟩)], .slice A1 lo.length c1, .slice AA 256 256] w fun e w' =>
      ∃ (aa : List Ac) (lo' : List Int) (P1 P2 P3 : Option Addr) (m2 d1 d2 d3 : Nat), e = .returned (.tuple #[.int .i64 0, .agg #[.bool true, .slice P1 aa.length d1, .slice P2 m2 d2, .slice P3 lo'.length d3]]) ∧ aa.length ≤ x + 1 ∧ (∀ a ∈ aa, a.k = 2 ∧ ∃ j : Nat, j ≤ x ∧ a.c = (j : Int)) ∧ putA aa c = wrote x c ∧
        Mirror lo' (wrote x c) ∧ Left12 w' w.heap.size P1 P3 d1 d3 aa lo' ∧ Below w.heap.size w w' := by
  have hc := cap_le tp L[j] ht0
  have hct : cap 255 tp = tp := cap_in ht0 ht1
  have e1 : (cap (cap 255 tp) L[j]).toNat = x := by rw [hct, hx]; rfl
  obtain ⟨T, aa, h1, h2, h3, h4, h5, h6⟩ := wrUn_run (ans := List.replicate 256 0) (x := x) (by omega) (S := ⟨[], [], short lo⟩) hM.short (by rw [List.length_replicate]; simp; omega)
  rw [List.nil_append] at h2
  have hrun : (oneW 0 0 tp L[j]).run (List.replicate 256 0) ⟨[], [], short lo⟩ = .go T 0 := by unfold oneW; rw [e1]; exact h1
  refine (playT_is (oneW 0 0 tp L[j]) 0 (oneW_nb _ _ _ _) (by decide) 19 #[.pointer (some ⟨b2, 0, none⟩), .pointer (some ⟨b1, 0, none⟩), .pointer (some ⟨b3, 0, none⟩)] enterB1 rfl List.length_replicate (by have := hM.2.1; omega) (by decide) hl hr (.go T 0) hrun
    (fun C hC hb H => backW_is A0 c0 n0 j L hn0 hj tp b1 b2 b3 (hb2.grow hb) (hb1.below hb hb1.lt) (hb3.below hb hb3.lt) (hA.below hb) H)).mono ?_
  rintro e w1 ⟨o, rfl, hOB, hB⟩
  obtain ⟨P1, P2, P3, g1, g2, d1, d2, d3, rfl, hD⟩ := hOB.at_
  have hLf : Left12 w1 w.heap.size P1 P3 d1 d3 T.acc (short T.loc) := left_of hOB
  have hn : (short T.loc).length = shN T.loc := short_len _
  have hM6 := h6.short
  rw [h2] at hLf
  refine ⟨aa, short T.loc, P1, P2, P3, T.nts.length, d1, d2, d3, ?_, h3, h4, h5, hM6, hLf, hB⟩
  rw [hn]
  show Ending.returned (.tuple #[.int .i64 0, .agg #[.bool true, .slice P1 T.acc.length d1, .slice P2 T.nts.length d2, .slice P3 (shN T.loc) d3]]) = _
  rw [h2]
theorem playR_is {w : World} {AA : Option Addr} {c : List Int} (hc : c.length = 256) (b2 : Nat) (tp : Int) (ht1 : tp ≤ 255) (x : Nat) (hx : (x : Int) ≤ tp) (hr : RI w AA 256 (wrote x c))
    (hb2 : BoxAt w b2 #[.int .i64 3, .int .i64 0, .int .i64 0, .int .i64 0, .int .i64 0, .int .i64 0, .int .i64 tp]) :
    Calls Try.prog 7 #[.func (.func 20) #[] #[.pointer (some ⟨b2, 0, none⟩)], .slice none 0 0, .slice AA 256 256] w fun e w' =>
      ∃ (P1 P2 P3 : Option Addr) (m1 m2 m3 d1 d2 d3 : Nat), e = .returned (.tuple #[.int .i64 x, .agg #[.bool true, .slice P1 m1 d1, .slice P2 m2 d2, .slice P3 m3 d3]]) ∧ (m1 : Int) ≤ tp + 1 ∧ Below w.heap.size w w' := by
  have hct : cap 255 tp = tp := cap_in (by omega) ht1
  obtain ⟨T, h1, h2⟩ := rdUn_run hc (t := tp.toNat) (x := x) (by omega) (by omega) ⟨[], [], short []⟩ rfl
  have hrun : (oneR 0 tp).run (wrote x c) ⟨[], [], short []⟩ = .go T x := by unfold oneR; rw [Tr.bind_ret, hct]; exact h1
  refine (playT_is (oneR 0 tp) 0 (oneR_nb _ _) (by decide) 20 #[.pointer (some ⟨b2, 0, none⟩)] enterB2 (lo := []) rfl (by unfold wrote; rw [downs_len, List.length_set]; exact hc) (by decide) (by decide) (RI.nil w) hr (.go T x) hrun
    (fun C hC hb H => backR_is tp b2 (hb2.grow hb) H)).mono ?_
  rintro e w1 ⟨o, rfl, hOB, hB⟩
  obtain ⟨P1, P2, P3, g1, g2, d1, d2, d3, rfl, hD⟩ := hOB.at_
  exact ⟨P1, P2, P3, T.acc.length, _, _, d1, d2, d3, rfl, by omega, hB⟩
end Go.Proofs.Ythijoklafbnhlaa
