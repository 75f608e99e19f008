/- TapeGrows: with more answers the same, and more. Own work. -/
import Derived.Test.YthpdfmjcchcijaaTPlays
namespace Go.Proofs.Ythpdfmjcchcijaa
open Go.ChangeShapes Go.WideShapes Go.ChangeAt Go.RowKit CellM TapeM

theorem enter18 (args : Array Value) (w : World) : (callFunc 18 args).run Try.prog w = .ok (.enter 18 args) w := enters Try.func18 (by kernel_rfl) rfl args w
/-- The closure: the acts behind a box. -/
theorem clo18_is {w : World} {mb bx : Nat} {AA : Option Addr} {ac : Nat} {ans : List Int} {S : TS} {F : Nat → Prop} (H : PT w mb 1 AA ac ans S F) (B : Nat) (Al : Option Addr) (cl n : Nat) (L : List TapeM.Op) (hn : L.length = n) (hB : B ≤ w.heap.size) (hF : ∀ b, F b → B ≤ b)
    (HA : ∀ wx, Below B w wx → RO wx Al cl L) (hL : n ≤ 100) (ha : ans.length ≤ 1000) (hacc : S.acc.length ≤ ans.length) (hnts : S.nts.length ≤ 100) (hloc : S.loc.length ≤ 32768) (hbx : w.cell? ⟨bx, 0, none⟩ = some (.slice Al n cl)) (R : Res) (hR : runA ans L S 0 = R) :
    Calls Try.prog 18 #[.pointer (some ⟨mb, 0, none⟩), .pointer (some ⟨bx, 0, none⟩)] w fun e w' => Ends R (Value.int .i64) w w' mb AA ac ans F e := by
  have HD := Lib.hid (do_is B Al cl n L hn hB hF HA hL ha S.nts.length hnts R ⟨TNow.of H (Below.refl _ _), hR, hacc, Nat.le_refl _, hloc⟩)
  clear HA hR
  go_enter Try.func18, Try.ntmps18
  go_wp2_with fail
  refine HD.out.mono ?_
  intro e w' hE
  cases R with
  | go T x =>
    obtain ⟨rfl, hN⟩ := hE
    have HN := Lib.hid hN
    clear hN HD
    go_wp2_with fail
    go_ret
    exact ⟨rfl, HN.out⟩
  | stop T =>
    obtain ⟨rfl, hN⟩ := hE
    exact ⟨rfl, rfl, hN⟩
/-- Play of the closure. -/
theorem playC18_is {w : World} {bx : Nat} {AA Al A1 : Option Addr} {ac cl c1 n n1 m : Nat} {ans lo : List Int} {L : List TapeM.Op} (hn : L.length = n) (hn1 : lo.length = n1) (hm : ans.length = m) (h1 : n ≤ 100) (h2 : n1 ≤ 1000) (h3 : m ≤ 1000)
    (hA : RO w Al cl L) (hl : RI w A1 c1 lo) (hr : RI w AA ac ans) (hbx : Has w ⟨bx, 0, none⟩ (.slice Al n cl)) (R : Res) (hR : runA ans L ⟨[], [], short lo⟩ 0 = R) :
    Calls Try.prog 7 #[.func (.func 18) #[] #[.pointer (some ⟨bx, 0, none⟩)], .slice A1 n1 c1, .slice AA m ac] w fun e w' => Plays R (Value.int .i64) (.int .i64 0) w w' e := by
  refine play_is R 18 #[.pointer (some ⟨bx, 0, none⟩)] enter18 A1 c1 n1 m hn1 hm h2 hl hr (fun w1 w2 F hb hF hP hb2 => ?_)
  have hb12 : Below w.heap.size w w2 := hb.trans (hb2.mono hb.size)
  exact clo18_is (hP.grow hb2) w.heap.size Al cl n L hn hb12.size (fun b hb => (hF b hb).1) (fun wx hx => hA.below (hb12.trans hx)) h1 (by omega) (by simp) (by simp) (by have := sh_le lo lo.length; rw [short_len]; unfold shN; omega)
    (hbx.below hb12 hbx.lt).1 R hR
theorem grows (ans lo : List Int) (L : List TapeM.Op) (k : Nat) (hk : k ≤ ans.length) (Rk R : Res) (h1 : runA (ans.take k) L ⟨[], [], lo⟩ 0 = Rk) (h2 : runA ans L ⟨[], [], lo⟩ 0 = R) :
    Rk.st.acc <+: R.st.acc ∧ Rk.st.nts <+: R.st.nts ∧ ((∃ T x, Rk = .go T x ∧ R = .go T x ∧ T.acc.length ≤ k) ∨ (∃ T, Rk = .stop T ∧ T.acc.length = k + 1)) := by
  have hm := run_more ans k hk L ⟨[], [], lo⟩ 0 (Nat.zero_le _)
  have hs := run_sizes (ans.take k) L ⟨[], [], lo⟩ 0 (Nat.zero_le _)
  rw [h1, h2] at hm
  rw [h1] at hs
  have hlen : (ans.take k).length = k := by simp; omega
  rw [hlen] at hs
  refine ⟨hm.2.1, hm.2.2, ?_⟩
  cases Rk with
  | go T x => exact .inl ⟨T, x, rfl, hm.1 T x rfl, hs.2.2.2 T x rfl⟩
  | stop T => exact .inr ⟨T, rfl, hs.2.2.1 T rfl⟩
/-- play -/
theorem playG_is {w : World} {bx by_ : Nat} {AA Al A1 : Option Addr} {ac cl c1 n n1 m : Nat} {ans lo : List Int} {L : List TapeM.Op} (hn : L.length = n) (hn1 : lo.length = n1) (hm : ans.length = m) (h1 : n ≤ 100) (h2 : n1 ≤ 1000) (h3 : m ≤ 1000)
    (hA : RO w Al cl L) (hl : RI w A1 c1 lo) (hr : RI w AA ac ans) (hbx : Has w ⟨bx, 0, none⟩ (.slice Al n cl)) (hby : Has w ⟨by_, 0, none⟩ (.slice A1 n1 c1)) (R : Res) (hR : runA ans L ⟨[], [], short lo⟩ 0 = R) :
    Calls Try.prog 17 #[.slice AA m ac, .pointer (some ⟨bx, 0, none⟩), .pointer (some ⟨by_, 0, none⟩)] w fun e w' => ∃ A1 A2 A3 m1 m2 m3 c1 c2 c3 va d, va = valR R ∧ d = Res.done R ∧ m1 = R.st.acc.length ∧ m2 = R.st.nts.length ∧
      e = .returned (.tuple #[.int .i64 va, .agg #[.bool d, .slice A1 m1 c1, .slice A2 m2 c2, .slice A3 m3 c3]]) ∧ OutAt w' (outV d A1 A2 A3 m1 m2 m3 c1 c2 c3) d R.st ∧ Below w.heap.size w w' := by
  have hmf : ∀ (fn : Fn) (first cap : Array Value) (w : World), (Instr.makeFunc fn first cap).run Try.prog w = .ok (.func fn first cap) w := fun _ _ _ _ => rfl
  obtain ⟨W, hW⟩ : ∃ W, W = w.alloc (.cells #[.bool false, .slice none 0 0, .slice none 0 0, .slice none 0 0] 29) := ⟨_, rfl⟩
  have hB : Below w.heap.size w W := by rw [hW]; exact below_alloc _ _
  have ho : ∀ i x, (#[.bool false, .slice none 0 0, .slice none 0 0, .slice none 0 0] : Array Value)[i]? = some x → Has W ⟨w.heap.size, i, none⟩ x := fun i x hx => by rw [hW]; exact has_new w _ _ i x hx
  have x1 := (hby.below hB hby.lt).1
  have HP := Lib.hid (playC18_is (bx := bx) hn hn1 hm h1 h2 h3 (hA.below hB) (hl.below hB) (hr.below hB) (hbx.below hB hbx.lt) R hR)
  have hsW : W.heap.size = w.heap.size + 1 := by rw [hW]; simp
  have HO := Lib.hid (And.intro hB (And.intro ho hsW))
  have HW := Lib.hid hW
  clear hA hl hr hbx hby hR hB ho hW hn hn1 hm hsW
  go_enter Try.func17, Try.ntmps17
  go_upto_region 1 with fail
  rw [← HW.out]
  go_wp2_with fail
  refine HP.out.mono ?_
  intro e w3 hPl
  obtain ⟨P1, P2, P3, m1, m2, m3, d1, d2, d3, va, dn, hva, hdn, hq1, hq2, rfl, hOB, hB3⟩ := plays_out hPl
  clear hPl
  have hO1 := hOB _ ((outW_kept w3 w.heap.size dn (.slice P1 m1 d1) (.slice P2 m2 d2) (.slice P3 m3 d3)).mono (fun p hp => by rw [HO.out.2.2, hp]; exact Nat.lt_succ_self _))
  have hh : ∀ i x, (#[.bool false, .slice none 0 0, .slice none 0 0, .slice none 0 0] : Array Value)[i]? = some x → Has w3 ⟨w.heap.size, i, none⟩ x := fun i x hx => (HO.out.2.1 i x hx).below hB3 (HO.out.2.1 i x hx).lt
  have o0 := (hh 0 _ rfl).1
  have o1 := (hh 1 _ rfl).1
  have o2 := (hh 2 _ rfl).1
  have o3 := (hh 3 _ rfl).1
  have p0 := (hh 0 _ rfl).2
  have p1 := (hh 1 _ rfl).2
  have p2 := (hh 2 _ rfl).2
  have p3 := (hh 3 _ rfl).2
  have HF := Lib.hid (And.intro hva (And.intro hdn (And.intro hq1 (And.intro hq2 (And.intro hO1 (outW_below dn (.slice P1 m1 d1) (.slice P2 m2 d2) (.slice P3 m3 d3) (HO.out.1.trans (hB3.mono HO.out.1.size)) (Nat.le_refl _)))))))
  clear hva hdn hq1 hq2 hO1 hOB hB3 hh HP HW HO
  go_wp2_with fail
  refine bodyPost_ret (v := .tuple #[.int .i64 va, .agg #[.bool dn, .slice P1 m1 d1, .slice P2 m2 d2, .slice P3 m3 d3]]) (by simp [results, Try.results17, go_sem, o0, o1, o2, o3]) rfl ?_
  exact ⟨P1, P2, P3, m1, m2, m3, d1, d2, d3, va, dn, HF.out.1, HF.out.2.1, HF.out.2.2.1, HF.out.2.2.2.1, rfl, HF.out.2.2.2.2.1, HF.out.2.2.2.2.2⟩
end Go.Proofs.Ythpdfmjcchcijaa
