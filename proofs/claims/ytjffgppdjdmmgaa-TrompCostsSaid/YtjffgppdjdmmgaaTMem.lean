/- tape's Mem: ask, Read, Write, Get, Set, Note. Own work. -/
import Derived.Test.YtjffgppdjdmmgaaRows3
import Derived.Deep.RegionLaw
import Derived.Deep.DeepCutAuto
import Derived.BigRegion
namespace Go.Proofs.Ytjffgppdjdmmgaa
open Go.ChangeShapes Go.WideShapes Go.ChangeAt Go.RowKit CellM TapeM

/-- The head of the program's object. -/
def pv (ph : Int) (AA : Option Addr) (n c : Nat) : Nat → Value := v3 (.int .i64 ph) (.slice AA n c) (.bool false)
def PT (w : World) (mb : Nat) (ph : Int) (AA : Option Addr) (ac : Nat) (ans : List Int) (S : TS) (F : Nat → Prop) : Prop := TAt w mb (pv ph AA ans.length ac) AA ac ans S F
def PN (w w' : World) (mb : Nat) (ph : Int) (AA : Option Addr) (ac : Nat) (ans : List Int) (S : TS) (F : Nat → Prop) : Prop := TNow w w' mb (pv ph AA ans.length ac) AA ac ans S F
theorem infoAc : (Try.prog.info? 47).map (fun i => (i.zero, i.size, i.bytes)) = some (some (.agg #[.int .i64 0, .int .i64 0, .int .i64 0]), 3, 24) := by kernel_rfl
theorem underAc : Try.prog.underlying 27 = some (.slice 47) := by kernel_rfl
theorem infoNt : (Try.prog.info? 67).map (fun i => (i.zero, i.size, i.bytes)) = some (some (.agg #[.int .i64 0, .int .i64 0]), 2, 16) := by kernel_rfl
theorem underNt : Try.prog.underlying 28 = some (.slice 67) := by kernel_rfl
/-- How the operation stops. -/
def stopV (mb : Nat) : Value := .iface 72 (.agg #[.pointer (some ⟨mb, 0, none⟩)])
section
variable {w w' : World} {mb : Nat} {ph : Int} {AA : Option Addr} {ac : Nat} {ans : List Int} {S : TS} {F : Nat → Prop}
theorem PT.c0 (H : PT w mb ph AA ac ans S F) : Has w ⟨mb, 0, none⟩ (.int .i64 ph) := by obtain ⟨A, h, c, H⟩ := H; exact H.hd 0 (by decide)
theorem PT.c1 (H : PT w mb ph AA ac ans S F) : Has w ⟨mb, 1, none⟩ (.slice AA ans.length ac) := by obtain ⟨A, h, c, H⟩ := H; exact H.hd 1 (by decide)
theorem PT.lt (H : PT w mb ph AA ac ans S F) : mb < w.heap.size := H.c0.lt
end
theorem ask_acc (S : TS) (a : TapeM.Ac) (j : Nat) : nn (askT S a) j = if j = 0 then S.acc.length + 1 else nn S j := by
  unfold nn askT
  split
  · simp
  · simp
  · rename_i h0 _
    rw [if_neg (fun e => h0 e)]
theorem ask_xx (S : TS) (a : TapeM.Ac) (j : Nat) : xx (askT S a) j = if j = 0 then flatAc S.acc ++ cellsAc a else xx S j := by
  unfold xx askT
  split
  · simp [flatAc, List.flatMap_append]
  · simp
  · rename_i h0 _
    rw [if_neg (fun e => h0 e)]
/-- The place of a local. -/
theorem TAtD.place {mb : Nat} {AA : Option Addr} {ac : Nat} {ans : List Int} {S : TS} {F : Nat → Prop} {W : World} {v : Nat → Value} {A : Nat → Option Addr} {h c : Nat → Nat} (H : TAtD W mb v AA ac ans S F A h c) {i : Nat} (hi : i < S.loc.length) :
    W.cell? ⟨mb, 5, none⟩ = some (.slice (some ⟨h 2, 0, none⟩) S.loc.length (c 2)) ∧ Has W ⟨h 2, i, none⟩ (.int .i64 S.loc[i]) := by
  have hp := (H.rows.p 2 (by decide)).1
  have hr := H.rows.r 2 (by decide)
  rw [(hr.get (i := i) hi).1] at hp
  exact ⟨hp, hr.at_ i _ (valsI_at hi)⟩
/-- An append's result may be stored. -/
theorem TAtD.spot {w w1 W : World} {mb : Nat} {v : Nat → Value} {AA : Option Addr} {ac : Nat} {ans : List Int} {S : TS} {F : Nat → Prop} {A : Nat → Option Addr} {h c : Nat → Nat} (H : TAtD W mb v AA ac ans S F A h c) (hb : Below W.heap.size W w)
    {i : Nat} (hi : i < 3) {v' : Value} {n' : Nat} {xs' : List Value} (hO : Onto w w1 v' (kk i) (h i) (c i) n' xs') : (∃ A' c', v' = .slice A' n' c') ∧ Has w1 ⟨mb, 3 + i, none⟩ (.slice (A i) (nn S i) (c i)) := by
  obtain ⟨A', h', c', hv, _, _⟩ := hO.ex
  have H2 := H.grow hb
  exact ⟨⟨A', c', hv⟩, hO.kept.has _ _ (H2.rows.p i hi) (fun hp => H2.rows.ne i hi hp.1 hp.2.symm)⟩
/-- One access more, and what is told of it. -/
theorem TAtD.ask {w w1 W : World} {mb : Nat} {v : Nat → Value} {AA : Option Addr} {ac : Nat} {ans : List Int} {S : TS} {F : Nat → Prop} {A : Nat → Option Addr} {h c : Nat → Nat} (H : TAtD W mb v AA ac ans S F A h c) (hb : Below W.heap.size W w)
    {v' : Value} (a : TapeM.Ac) (hO : OntoK w w1 v' 3 (A 0) (h 0) (c 0) S.acc.length (flatAc S.acc) (cellsAc a)) :
    ∃ A' c', v' = .slice A' (S.acc.length + 1) c' ∧ Has w1 ⟨mb, 3, none⟩ (.slice (A 0) S.acc.length (c 0)) ∧ TNow W (w1.setCell ⟨mb, 3, none⟩ v') mb v AA ac ans (askT S a) F := by
  obtain ⟨⟨A', c', hv⟩, hh⟩ := H.spot hb (i := 0) (by decide) hO.onto
  exact ⟨A', c', hv, hh, TNow.before hb ((H.grow hb).app (i := 0) (by decide) hO.onto (fun j _ => ask_acc S a j) (fun j _ => ask_xx S a j)) H.more⟩
section
variable {w : World} {mb : Nat} {AA : Option Addr} {ac : Nat} {ans : List Int} {S : TS} {F : Nat → Prop}
set_option maxHeartbeats 2000000 in
theorem ask_go (H : PT w mb 1 AA ac ans S F) (hl : S.acc.length < ans.length) (hs : S.acc.length ≤ 90000) (k cl v : Int) (x : Int) (hx : ans.getD S.acc.length 0 = x) :
    Calls Try.prog 47 #[.pointer (some ⟨mb, 0, none⟩), .agg #[.int .i64 k, .int .i64 cl, .int .i64 v]] w fun e w' => e = .returned (.int .i64 x) ∧ PN w w' mb 1 AA ac ans (askT S ⟨k, cl, v⟩) F := by
  have hmb := H.lt
  have c0 := H.c0.1
  obtain ⟨A, h, c, hD⟩ := H
  obtain ⟨W, hW⟩ : ∃ W, W = w.alloc (.cells #[.int .i64 k, .int .i64 cl, .int .i64 v] 47) := ⟨_, rfl⟩
  have hB : Below w.heap.size w W := by rw [hW]; exact (Below.refl _ _).alloc (Nat.le_refl _) _
  have hD1 := hD.grow hB
  have p3 : W.cell? ⟨mb, 3, none⟩ = some (.slice (A 0) S.acc.length (c 0)) := (hD1.rows.p 0 (by decide)).1
  have q3 : W.frozen? ⟨mb, 3, none⟩ = false := (hD1.rows.p 0 (by decide)).2
  have a0 : W.cell? ⟨w.heap.size, 0, none⟩ = some (.int .i64 k) := by rw [hW]; exact (has_new w _ _ 0 _ rfl).1
  have a1 : W.cell? ⟨w.heap.size, 1, none⟩ = some (.int .i64 cl) := by rw [hW]; exact (has_new w _ _ 1 _ rfl).1
  have a2 : W.cell? ⟨w.heap.size, 2, none⟩ = some (.int .i64 v) := by rw [hW]; exact (has_new w _ _ 2 _ rfl).1
  have p3a : ∀ o, (W.alloc o).cell? ⟨mb, 3, none⟩ = some (.slice (A 0) S.acc.length (c 0)) := fun o => (Has.alloc (hD1.rows.p 0 (by decide)) o).1
  have HR := Lib.hid (fun (wx : World) (hb : Below W.heap.size W wx) => (hD1.rows.r 0 (by decide)).below hb)
  have HO := Lib.hid (fun (w2 w3 : World) (v' : Value) (hb : Below W.heap.size W w2) (hO : OntoK w2 w3 v' 3 (A 0) (h 0) (c 0) S.acc.length (flatAc S.acc) (cellsAc ⟨k, cl, v⟩)) => hD1.ask hb ⟨k, cl, v⟩ hO)
  have HM := Lib.hid (And.intro hB hD.more)
  have HX := Lib.hid hx
  have HW := Lib.hid hW
  have hmW : mb < W.heap.size := hD1.rows.p 0 (by decide) |>.lt
  clear hD hD1 hB hW hx
  go_enter Try.func47, Try.ntmps47
  go_upto_region 4 with fail
  rw [← HW.out]
  go_cut [] (fun wx => Hid (PN w wx mb 1 AA ac ans (askT S ⟨k, cl, v⟩) F))
  case first =>
   have HONE : ∀ u ∈ cellsAc ⟨k, cl, v⟩, u.oneCell' = true := by intro u hu; unfold cellsAc at hu; simp at hu; rcases hu with rfl | rfl | rfl <;> rfl
   go_region_law (first
     | (refine step_app_k rfl _ _ 27 47 rfl 3 (.agg #[.int .i64 0, .int .i64 0, .int .i64 0]) 24 underAc infoAc rfl (by decide) (by decide) (HR.out _ (by first | exact bl_drewN_alloc _ _ _ | exact bl_alloc_drew _ _)) (by show S.acc.length ≤ 100000; omega) rfl ⟨_, 0, none⟩ rfl rfl HONE (news_at _ (cellsAc ⟨k, cl, v⟩) _ _ rfl) ?_
        intro v' w3 hO
        obtain ⟨A', c', rfl, hh, hN⟩ := HO.out _ _ _ (by first | exact bl_drewN_alloc _ _ _ | exact bl_alloc_drew _ _) hO
        have e1 := hh.1
        have f1 := hh.2
        have F := Lib.hid (TNow.before HM.out.1 hN HM.out.2)
        clear hO hN hh))
   all_goals
     go_wp2_with fail
     go_meet
     exact F
  case rest =>
   clear HR HO HM p3 q3 p3a a0 a1 a2 c0 hmW HW
   have HN := Lib.hid hcut.out
   obtain ⟨A2, h2, c2, hE⟩ := hcut.out.at_
   clear hcut
   have e3 : wc.cell? ⟨mb, 3, none⟩ = some (.slice (A2 0) (S.acc.length + 1) (c2 0)) := by
     have := (hE.rows.p 0 (by decide)).1
     rw [ask_acc, if_pos rfl] at this
     exact this
   have e1 : wc.cell? ⟨mb, 1, none⟩ = some (.slice AA ans.length ac) := (hE.hd 1 (by decide)).1
   obtain ⟨ad, rfl, e0⟩ := hE.ri.at_ hl
   have hv : ans[S.acc.length] = x := by rw [← HX.out]; simp [List.getD, hl]
   rw [hv] at e0
   clear hE hv
   go_wp2_with fail
   go_ret
   exact ⟨rfl, HN.out⟩
set_option maxHeartbeats 2000000 in
theorem ask_stop (H : PT w mb 1 AA ac ans S F) (hl : ¬ S.acc.length < ans.length) (hs : S.acc.length ≤ 90000) (k cl v : Int) :
    Calls Try.prog 47 #[.pointer (some ⟨mb, 0, none⟩), .agg #[.int .i64 k, .int .i64 cl, .int .i64 v]] w fun e w' => e = .panicked [{ v := stopV mb, recovered := false }] ∧ PN w w' mb 2 AA ac ans (askT S ⟨k, cl, v⟩) F := by
  have hmb := H.lt
  have c0 := H.c0.1
  obtain ⟨A, h, c, hD⟩ := H
  obtain ⟨W, hW⟩ : ∃ W, W = w.alloc (.cells #[.int .i64 k, .int .i64 cl, .int .i64 v] 47) := ⟨_, rfl⟩
  have hB : Below w.heap.size w W := by rw [hW]; exact (Below.refl _ _).alloc (Nat.le_refl _) _
  have hD1 := hD.grow hB
  have p3 : W.cell? ⟨mb, 3, none⟩ = some (.slice (A 0) S.acc.length (c 0)) := (hD1.rows.p 0 (by decide)).1
  have q3 : W.frozen? ⟨mb, 3, none⟩ = false := (hD1.rows.p 0 (by decide)).2
  have a0 : W.cell? ⟨w.heap.size, 0, none⟩ = some (.int .i64 k) := by rw [hW]; exact (has_new w _ _ 0 _ rfl).1
  have a1 : W.cell? ⟨w.heap.size, 1, none⟩ = some (.int .i64 cl) := by rw [hW]; exact (has_new w _ _ 1 _ rfl).1
  have a2 : W.cell? ⟨w.heap.size, 2, none⟩ = some (.int .i64 v) := by rw [hW]; exact (has_new w _ _ 2 _ rfl).1
  have p3a : ∀ o, (W.alloc o).cell? ⟨mb, 3, none⟩ = some (.slice (A 0) S.acc.length (c 0)) := fun o => (Has.alloc (hD1.rows.p 0 (by decide)) o).1
  have HR := Lib.hid (fun (wx : World) (hb : Below W.heap.size W wx) => (hD1.rows.r 0 (by decide)).below hb)
  have HO := Lib.hid (fun (w2 w3 : World) (v' : Value) (hb : Below W.heap.size W w2) (hO : OntoK w2 w3 v' 3 (A 0) (h 0) (c 0) S.acc.length (flatAc S.acc) (cellsAc ⟨k, cl, v⟩)) => hD1.ask hb ⟨k, cl, v⟩ hO)
  have HM := Lib.hid (And.intro hB hD.more)
  have HW := Lib.hid hW
  have hmW : mb < W.heap.size := hD1.rows.p 0 (by decide) |>.lt
  clear hD hD1 hB hW
  go_enter Try.func47, Try.ntmps47
  go_upto_region 4 with fail
  rw [← HW.out]
  go_cut [] (fun wx => Hid (PN w wx mb 1 AA ac ans (askT S ⟨k, cl, v⟩) F))
  case first =>
   have HONE : ∀ u ∈ cellsAc ⟨k, cl, v⟩, u.oneCell' = true := by intro u hu; unfold cellsAc at hu; simp at hu; rcases hu with rfl | rfl | rfl <;> rfl
   go_region_law (first
     | (refine step_app_k rfl _ _ 27 47 rfl 3 (.agg #[.int .i64 0, .int .i64 0, .int .i64 0]) 24 underAc infoAc rfl (by decide) (by decide) (HR.out _ (by first | exact bl_drewN_alloc _ _ _ | exact bl_alloc_drew _ _)) (by show S.acc.length ≤ 100000; omega) rfl ⟨_, 0, none⟩ rfl rfl HONE (news_at _ (cellsAc ⟨k, cl, v⟩) _ _ rfl) ?_
        intro v' w3 hO
        obtain ⟨A', c', rfl, hh, hN⟩ := HO.out _ _ _ (by first | exact bl_drewN_alloc _ _ _ | exact bl_alloc_drew _ _) hO
        have e1 := hh.1
        have f1 := hh.2
        have F := Lib.hid (TNow.before HM.out.1 hN HM.out.2)
        clear hO hN hh))
   all_goals
     go_wp2_with fail
     go_meet
     exact F
  case rest =>
   clear HR HO HM p3 q3 p3a a0 a1 a2 c0 hmW HW
   have HN := Lib.hid hcut.out
   obtain ⟨A2, h2, c2, hE⟩ := hcut.out.at_
   clear hcut
   have e3 : wc.cell? ⟨mb, 3, none⟩ = some (.slice (A2 0) (S.acc.length + 1) (c2 0)) := by
     have := (hE.rows.p 0 (by decide)).1
     rw [ask_acc, if_pos rfl] at this
     exact this
   have e1 : wc.cell? ⟨mb, 1, none⟩ = some (.slice AA ans.length ac) := (hE.hd 1 (by decide)).1
   have e0 : wc.cell? ⟨mb, 0, none⟩ = some (.int .i64 1) := (hE.hd 0 (by decide)).1
   have f0 : wc.frozen? ⟨mb, 0, none⟩ = false := (hE.hd 0 (by decide)).2
   have HT := Lib.hid (hE.setH (i := 0) (x := .int .i64 2) (v2 := pv 2 AA ans.length ac) (by decide) (fun j hj => by
     match j, hj with
     | 0, _ => rfl
     | 1, _ => rfl
     | 2, _ => rfl))
   clear hE
   go_wp2_with fail
   exact ⟨rfl, rfl, TNow.trans HN.out HT.out⟩
theorem ask_nil (w : World) (k cl v : Int) : Calls Try.prog 47 #[.pointer none, .agg #[.int .i64 k, .int .i64 cl, .int .i64 v]] w fun e w' => e = .returned (.int .i64 0) ∧ Below w.heap.size w w' := by
  go_enter Try.func47, Try.ntmps47
  go_wp2_with fail
  go_ret
  exact ⟨rfl, (Below.refl _ _).alloc (Nat.le_refl _) _⟩
end
section
variable {w : World} {mb : Nat} {AA : Option Addr} {ac : Nat} {ans : List Int} {S : TS} {F : Nat → Prop}
theorem readM_go (H : PT w mb 1 AA ac ans S F) (hl : S.acc.length < ans.length) (hs : S.acc.length ≤ 90000) (cl : Int) (x : Int) (hx : ans.getD S.acc.length 0 = x) :
    Calls Try.prog 30 #[.pointer (some ⟨mb, 0, none⟩), .int .i64 cl] w fun e w' => e = .returned (.int .i64 x) ∧ PN w w' mb 1 AA ac ans (askT S ⟨1, cl, 0⟩) F := by
  have HH := Lib.hid (ask_go H hl hs 1 cl 0 x hx)
  clear hx
  go_enter Try.func30, Try.ntmps30
  go_wp2_with fail
  refine HH.out.mono ?_; rintro e w' ⟨rfl, hN⟩
  have HN := Lib.hid hN; clear hN
  go_wp2_with fail
  go_ret
  exact ⟨rfl, HN.out⟩
theorem readM_stop (H : PT w mb 1 AA ac ans S F) (hl : ¬ S.acc.length < ans.length) (hs : S.acc.length ≤ 90000) (cl : Int) :
    Calls Try.prog 30 #[.pointer (some ⟨mb, 0, none⟩), .int .i64 cl] w fun e w' => e = .panicked [{ v := stopV mb, recovered := false }] ∧ PN w w' mb 2 AA ac ans (askT S ⟨1, cl, 0⟩) F := by
  have HH := Lib.hid (ask_stop H hl hs 1 cl 0)
  go_enter Try.func30, Try.ntmps30
  go_wp2_with fail
  refine HH.out.mono ?_; rintro e w' ⟨rfl, hN⟩
  exact ⟨rfl, rfl, hN⟩
theorem readM_nil (w : World) (cl : Int) : Calls Try.prog 30 #[.pointer none, .int .i64 cl] w fun e w' => e = .returned (.int .i64 0) ∧ Below w.heap.size w w' := by
  go_enter Try.func30, Try.ntmps30
  go_wp2_with fail
  refine (ask_nil _ _ _ _).mono ?_; rintro e w' ⟨rfl, hb⟩
  have HB := Lib.hid hb; clear hb
  go_wp2_with fail
  go_ret
  exact ⟨rfl, HB.out⟩
theorem writeM_go (H : PT w mb 1 AA ac ans S F) (hl : S.acc.length < ans.length) (hs : S.acc.length ≤ 90000) (cl v : Int) :
    Calls Try.prog 49 #[.pointer (some ⟨mb, 0, none⟩), .int .i64 cl, .int .i64 v] w fun e w' => e = .returned (.tuple #[]) ∧ PN w w' mb 1 AA ac ans (askT S ⟨2, cl, v⟩) F := by
  have HH := Lib.hid (ask_go H hl hs 2 cl v _ rfl)
  go_enter Try.func49, Try.ntmps49
  go_wp2_with fail
  refine HH.out.mono ?_; rintro e w' ⟨rfl, hN⟩
  have HN := Lib.hid hN; clear hN
  go_wp2_with fail
  go_end0
  exact ⟨rfl, HN.out⟩
theorem writeM_stop (H : PT w mb 1 AA ac ans S F) (hl : ¬ S.acc.length < ans.length) (hs : S.acc.length ≤ 90000) (cl v : Int) :
    Calls Try.prog 49 #[.pointer (some ⟨mb, 0, none⟩), .int .i64 cl, .int .i64 v] w fun e w' => e = .panicked [{ v := stopV mb, recovered := false }] ∧ PN w w' mb 2 AA ac ans (askT S ⟨2, cl, v⟩) F := by
  have HH := Lib.hid (ask_stop H hl hs 2 cl v)
  go_enter Try.func49, Try.ntmps49
  go_wp2_with fail
  refine HH.out.mono ?_; rintro e w' ⟨rfl, hN⟩
  exact ⟨rfl, rfl, hN⟩
theorem writeM_nil (w : World) (cl v : Int) : Calls Try.prog 49 #[.pointer none, .int .i64 cl, .int .i64 v] w fun e w' => e = .returned (.tuple #[]) ∧ Below w.heap.size w w' := by
  go_enter Try.func49, Try.ntmps49
  go_wp2_with fail
  refine (ask_nil _ _ _ _).mono ?_; rintro e w' ⟨rfl, hb⟩
  have HB := Lib.hid hb; clear hb
  go_wp2_with fail
  go_end0
  exact ⟨rfl, HB.out⟩
end
end Go.Proofs.Ytjffgppdjdmmgaa
