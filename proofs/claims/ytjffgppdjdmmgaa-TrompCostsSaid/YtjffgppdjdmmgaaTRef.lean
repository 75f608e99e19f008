/- The reference's Mem: access, Read, Write, Get. Own work. -/
import Derived.Test.YtjffgppdjdmmgaaTDoB
import Derived.Deep.RegionLaw
import Derived.Deep.DeepCutAuto
namespace Go.Proofs.Ytjffgppdjdmmgaa
open Go.ChangeShapes Go.WideShapes Go.ChangeAt Go.RowKit CellM TapeM

/-- The head of the reference's object. -/
def rv (at_ : Int) (ov : Bool) (AA : Option Addr) (n c : Nat) : Nat → Value := v3 (.slice AA n c) (.int .i64 at_) (.bool ov)
/-- The reference's Mem: over, or so many answers told as there were accesses. -/
def RT (w : World) (mb : Nat) (ov : Bool) (AA : Option Addr) (ac : Nat) (ans : List Int) (S : TS) (F : Nat → Prop) : Prop := ∃ at_ : Nat, (ov = false → at_ = S.acc.length) ∧ TAt w mb (rv at_ ov AA ans.length ac) AA ac ans S F
def RN (w w' : World) (mb : Nat) (ov : Bool) (AA : Option Addr) (ac : Nat) (ans : List Int) (S : TS) (F : Nat → Prop) : Prop := ∃ at_ : Nat, (ov = false → at_ = S.acc.length) ∧ TNow w w' mb (rv at_ ov AA ans.length ac) AA ac ans S F
section
variable {w wr W w' : World} {mb : Nat} {ov ov2 : Bool} {AA : Option Addr} {ac : Nat} {ans : List Int} {S T : TS} {F : Nat → Prop}
theorem RN.at_ (H : RN w w' mb ov AA ac ans S F) : RT w' mb ov AA ac ans S (More w F) := by
  obtain ⟨a, ha, H⟩ := H
  exact ⟨a, ha, H.at_⟩
theorem RN.step (H : RN w w' mb ov AA ac ans S F) : Step F w w' := by
  obtain ⟨a, ha, H⟩ := H
  exact H.step
theorem RN.next (H : RN w wr mb ov AA ac ans S F) (hb : Below wr.heap.size wr W) : RT W mb ov AA ac ans S (Tight w wr F) := by
  obtain ⟨a, ha, H⟩ := H
  exact ⟨a, ha, TNow.next H hb⟩
theorem RN.back (H : RN w wr mb ov AA ac ans S F) (hb : Below wr.heap.size wr W) (H2 : RN W w' mb ov2 AA ac ans T (Tight w wr F)) : RN w w' mb ov2 AA ac ans T F := by
  obtain ⟨a, ha, H⟩ := H
  obtain ⟨a2, ha2, H2⟩ := H2
  exact ⟨a2, ha2, TNow.back H hb H2⟩
theorem RN.box (H2 : RN W w' mb ov AA ac ans T (Tight w wr F)) {p : Addr} {x : Value} (hp : Has W p x) (hb : p.block = wr.heap.size) : Has w' p x := by
  obtain ⟨a2, ha2, H2⟩ := H2
  exact TNow.box H2 hp hb
theorem RT.grow (H : RT w mb ov AA ac ans S F) (hb : Below w.heap.size w w') : RT w' mb ov AA ac ans S F := by
  obtain ⟨a, ha, H⟩ := H
  exact ⟨a, ha, TAt.grow H hb⟩
theorem RN.of (H : RT w mb ov AA ac ans S F) (hb : Below w.heap.size w w') : RN w w' mb ov AA ac ans S F := by
  obtain ⟨a, ha, H⟩ := H
  exact ⟨a, ha, TNow.of H hb⟩
theorem RT.lt (H : RT w mb ov AA ac ans S F) : mb < w.heap.size := by
  obtain ⟨a, ha, A, h, c, H⟩ := H
  exact (H.hd 0 (by decide)).lt
theorem RT.c2 (H : RT w mb ov AA ac ans S F) : Has w ⟨mb, 2, none⟩ (.bool ov) := by
  obtain ⟨a, ha, A, h, c, H⟩ := H
  exact H.hd 2 (by decide)
end
section
variable {w : World} {mb : Nat} {AA : Option Addr} {ac : Nat} {ans : List Int} {S : TS} {F : Nat → Prop}
set_option maxHeartbeats 4000000 in
theorem access_go (H : RT w mb false AA ac ans S F) (hl : S.acc.length < ans.length) (hs : S.acc.length ≤ 90000) (k cl v : Int) (x : Int) (hx : ans.getD S.acc.length 0 = x) :
    Calls Try.prog 50 #[.pointer (some ⟨mb, 0, none⟩), .agg #[.int .i64 k, .int .i64 cl, .int .i64 v]] w fun e w' => e = .returned (.int .i64 x) ∧ RN w w' mb false AA ac ans (askT S ⟨k, cl, v⟩) F := by
  have hmb := H.lt
  have c2 := H.c2.1
  obtain ⟨at_, hat, A, h, c, hD⟩ := H
  obtain rfl := hat rfl
  obtain ⟨W, hW⟩ : ∃ W, W = w.alloc (.cells #[.int .i64 k, .int .i64 cl, .int .i64 v] 47) := ⟨_, rfl⟩
  have hB : Below w.heap.size w W := by rw [hW]; exact (Below.refl _ _).alloc (Nat.le_refl _) _
  have hD1 := hD.grow hB
  have p3 : W.cell? ⟨mb, 3, none⟩ = some (.slice (A 0) S.acc.length (c 0)) := (hD1.rows.p 0 (by decide)).1
  have q3 : W.frozen? ⟨mb, 3, none⟩ = false := (hD1.rows.p 0 (by decide)).2
  have a0 : W.cell? ⟨w.heap.size, 0, none⟩ = some (.int .i64 k) := by rw [hW]; exact (has_new w _ _ 0 _ rfl).1
  have a1 : W.cell? ⟨w.heap.size, 1, none⟩ = some (.int .i64 cl) := by rw [hW]; exact (has_new w _ _ 1 _ rfl).1
  have a2 : W.cell? ⟨w.heap.size, 2, none⟩ = some (.int .i64 v) := by rw [hW]; exact (has_new w _ _ 2 _ rfl).1
  have p3a : ∀ o, (W.alloc o).cell? ⟨mb, 3, none⟩ = some (.slice (A 0) S.acc.length (c 0)) := fun o => (Has.alloc (hD1.rows.p 0 (by decide)) o).1
  have HR := Lib.hid (fun (wx : World) (hb : Below W.heap.size W wx) => (hD1.rows.r 0 (by decide)).below hb)
  have HO := Lib.hid (fun (w2 w3 : World) (v' : Value) (hb : Below W.heap.size W w2) (hO : OntoK w2 w3 v' 3 (A 0) (h 0) (c 0) S.acc.length (flatAc S.acc) (cellsAc ⟨k, cl, v⟩)) => hD1.ask hb ⟨k, cl, v⟩ hO)
  have HM := Lib.hid (And.intro hB hD.more)
  have HX := Lib.hid hx
  have HW := Lib.hid hW
  have hmW : mb < W.heap.size := hD1.rows.p 0 (by decide) |>.lt
  clear hD hD1 hB hW hx hat
  go_enter Try.func50, Try.ntmps50
  go_upto_region 3 with fail
  rw [← HW.out]
  go_cut [] (fun wx => Hid (TNow w wx mb (rv S.acc.length false AA ans.length ac) AA ac ans (askT S ⟨k, cl, v⟩) F))
  case first =>
   have HONE : ∀ u ∈ cellsAc ⟨k, cl, v⟩, u.oneCell' = true := by intro u hu; unfold cellsAc at hu; simp at hu; rcases hu with rfl | rfl | rfl <;> rfl
   go_region_law (first
     | (refine step_app_k rfl _ _ 27 47 rfl 3 (.agg #[.int .i64 0, .int .i64 0, .int .i64 0]) 24 underAc infoAc rfl (by decide) (by decide) (HR.out _ (by first | exact bl_drewN_alloc _ _ _ | exact bl_alloc_drew _ _)) (by show S.acc.length ≤ 100000; omega) rfl ⟨_, 0, none⟩ rfl rfl HONE (news_at _ (cellsAc ⟨k, cl, v⟩) _ _ rfl) ?_
        intro v' w3 hO
        obtain ⟨A', c', rfl, hh, hN⟩ := HO.out _ _ _ (by first | exact bl_drewN_alloc _ _ _ | exact bl_alloc_drew _ _) hO
        have e1 := hh.1
        have f1 := hh.2
        have F := Lib.hid (TNow.before HM.out.1 hN HM.out.2)
        clear hO hN hh))
   all_goals
     go_wp2_with fail
     go_meet
     exact F
  case rest =>
   clear HR HO HM p3 q3 p3a a0 a1 a2 c2 hmW HW
   have HN := Lib.hid hcut.out
   obtain ⟨A2, h2, c2, hE⟩ := hcut.out.at_
   clear hcut
   have e0 : wc.cell? ⟨mb, 0, none⟩ = some (.slice AA ans.length ac) := (hE.hd 0 (by decide)).1
   have e1 : wc.cell? ⟨mb, 1, none⟩ = some (.int .i64 S.acc.length) := (hE.hd 1 (by decide)).1
   have f1 : wc.frozen? ⟨mb, 1, none⟩ = false := (hE.hd 1 (by decide)).2
   have hd1 : decide ((ans.length : Int) ≤ (S.acc.length : Int)) = false := by simp; omega
   have HE := Lib.hid hE
   clear hE
   go_wp2_with fail
   go_quiet (fail)
   have hE1 := HE.out.grow (bl_drewN wc nq)
   have hT := hE1.setH (i := 1) (x := .int .i64 ((S.acc.length : Int) + 1)) (v2 := rv ((S.acc.length + 1 : Nat) : Int) false AA ans.length ac) (by decide) (fun j hj => by
     match j, hj with
     | 0, _ => rfl
     | 1, _ => rfl
     | 2, _ => rfl)
   obtain ⟨W2, hW2⟩ : ∃ W2, W2 = (wc.drewN nq).setCell ⟨mb, 1, none⟩ (.int .i64 ((S.acc.length : Int) + 1)) := ⟨_, rfl⟩
   rw [← hW2] at hT
   obtain ⟨A3, h3, c3, hE3⟩ := hT.at_
   have g0 : W2.cell? ⟨mb, 0, none⟩ = some (.slice AA ans.length ac) := (hE3.hd 0 (by decide)).1
   have g1 : W2.cell? ⟨mb, 1, none⟩ = some (.int .i64 ((S.acc.length : Int) + 1)) := (hE3.hd 1 (by decide)).1
   obtain ⟨ad, rfl, ea⟩ := hE3.ri.at_ hl
   have hv : ans[S.acc.length] = x := by rw [← HX.out]; simp [List.getD, hl]
   rw [hv] at ea
   have HT := Lib.hid hT
   have HW2 := Lib.hid hW2
   have hsub : (S.acc.length : Int) + 1 - 1 = S.acc.length := by omega
   clear hE1 hE3 hT hW2 hv
   go_upto_region 8 with fail
   rw [← HW2.out]
   go_quiet (fail)
   go_wp2_with fail
   go_ret
   exact ⟨rfl, S.acc.length + 1, fun _ => by simp [askT], TNow.after (TNow.trans (TNow.after HN.out (bl_drewN _ _)) HT.out) (bl_drewN _ _)⟩
set_option maxHeartbeats 4000000 in
theorem access_stop (H : RT w mb false AA ac ans S F) (hl : ¬ S.acc.length < ans.length) (hs : S.acc.length ≤ 90000) (k cl v : Int) :
    Calls Try.prog 50 #[.pointer (some ⟨mb, 0, none⟩), .agg #[.int .i64 k, .int .i64 cl, .int .i64 v]] w fun e w' => e = .returned (.int .i64 0) ∧ RN w w' mb true AA ac ans (askT S ⟨k, cl, v⟩) F := by
  have hmb := H.lt
  have c2 := H.c2.1
  obtain ⟨at_, hat, A, h, c, hD⟩ := H
  obtain rfl := hat rfl
  obtain ⟨W, hW⟩ : ∃ W, W = w.alloc (.cells #[.int .i64 k, .int .i64 cl, .int .i64 v] 47) := ⟨_, rfl⟩
  have hB : Below w.heap.size w W := by rw [hW]; exact (Below.refl _ _).alloc (Nat.le_refl _) _
  have hD1 := hD.grow hB
  have p3 : W.cell? ⟨mb, 3, none⟩ = some (.slice (A 0) S.acc.length (c 0)) := (hD1.rows.p 0 (by decide)).1
  have q3 : W.frozen? ⟨mb, 3, none⟩ = false := (hD1.rows.p 0 (by decide)).2
  have a0 : W.cell? ⟨w.heap.size, 0, none⟩ = some (.int .i64 k) := by rw [hW]; exact (has_new w _ _ 0 _ rfl).1
  have a1 : W.cell? ⟨w.heap.size, 1, none⟩ = some (.int .i64 cl) := by rw [hW]; exact (has_new w _ _ 1 _ rfl).1
  have a2 : W.cell? ⟨w.heap.size, 2, none⟩ = some (.int .i64 v) := by rw [hW]; exact (has_new w _ _ 2 _ rfl).1
  have p3a : ∀ o, (W.alloc o).cell? ⟨mb, 3, none⟩ = some (.slice (A 0) S.acc.length (c 0)) := fun o => (Has.alloc (hD1.rows.p 0 (by decide)) o).1
  have HR := Lib.hid (fun (wx : World) (hb : Below W.heap.size W wx) => (hD1.rows.r 0 (by decide)).below hb)
  have HO := Lib.hid (fun (w2 w3 : World) (v' : Value) (hb : Below W.heap.size W w2) (hO : OntoK w2 w3 v' 3 (A 0) (h 0) (c 0) S.acc.length (flatAc S.acc) (cellsAc ⟨k, cl, v⟩)) => hD1.ask hb ⟨k, cl, v⟩ hO)
  have HM := Lib.hid (And.intro hB hD.more)
  have HW := Lib.hid hW
  have hmW : mb < W.heap.size := hD1.rows.p 0 (by decide) |>.lt
  clear hD hD1 hB hW hat
  go_enter Try.func50, Try.ntmps50
  go_upto_region 3 with fail
  rw [← HW.out]
  go_cut [] (fun wx => Hid (TNow w wx mb (rv S.acc.length false AA ans.length ac) AA ac ans (askT S ⟨k, cl, v⟩) F))
  case first =>
   have HONE : ∀ u ∈ cellsAc ⟨k, cl, v⟩, u.oneCell' = true := by intro u hu; unfold cellsAc at hu; simp at hu; rcases hu with rfl | rfl | rfl <;> rfl
   go_region_law (first
     | (refine step_app_k rfl _ _ 27 47 rfl 3 (.agg #[.int .i64 0, .int .i64 0, .int .i64 0]) 24 underAc infoAc rfl (by decide) (by decide) (HR.out _ (by first | exact bl_drewN_alloc _ _ _ | exact bl_alloc_drew _ _)) (by show S.acc.length ≤ 100000; omega) rfl ⟨_, 0, none⟩ rfl rfl HONE (news_at _ (cellsAc ⟨k, cl, v⟩) _ _ rfl) ?_
        intro v' w3 hO
        obtain ⟨A', c', rfl, hh, hN⟩ := HO.out _ _ _ (by first | exact bl_drewN_alloc _ _ _ | exact bl_alloc_drew _ _) hO
        have e1 := hh.1
        have f1 := hh.2
        have F := Lib.hid (TNow.before HM.out.1 hN HM.out.2)
        clear hO hN hh))
   all_goals
     go_wp2_with fail
     go_meet
     exact F
  case rest =>
   clear HR HO HM p3 q3 p3a a0 a1 a2 c2 hmW HW
   have HN := Lib.hid hcut.out
   obtain ⟨A2, h2, c2, hE⟩ := hcut.out.at_
   clear hcut
   have e0 : wc.cell? ⟨mb, 0, none⟩ = some (.slice AA ans.length ac) := (hE.hd 0 (by decide)).1
   have e1 : wc.cell? ⟨mb, 1, none⟩ = some (.int .i64 S.acc.length) := (hE.hd 1 (by decide)).1
   have e2 : wc.cell? ⟨mb, 2, none⟩ = some (.bool false) := (hE.hd 2 (by decide)).1
   have f2 : wc.frozen? ⟨mb, 2, none⟩ = false := (hE.hd 2 (by decide)).2
   have hd1 : decide ((ans.length : Int) ≤ (S.acc.length : Int)) = true := by simp; omega
   have HE := Lib.hid hE
   clear hE
   go_wp2_with fail
   go_quiet (fail)
   have hE1 := HE.out.grow (bl_drewN wc nq)
   have hT := hE1.setH (i := 2) (x := .bool true) (v2 := rv (S.acc.length : Int) true AA ans.length ac) (by decide) (fun j hj => by
     match j, hj with
     | 0, _ => rfl
     | 1, _ => rfl
     | 2, _ => rfl)
   have HT := Lib.hid hT
   clear hE1 hT
   go_wp2_with fail
   go_ret
   exact ⟨rfl, S.acc.length, fun h => (by cases h), TNow.trans (TNow.after HN.out (bl_drewN _ _)) HT.out⟩
end
end Go.Proofs.Ytjffgppdjdmmgaa
