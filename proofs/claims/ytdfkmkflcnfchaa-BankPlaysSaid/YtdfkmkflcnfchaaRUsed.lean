/- The reference's Used: each cell put in its place. Own work. -/
import Derived.Test.YtdfkmkflcnfchaaRPl
import Derived.Test.YtdfkmkflcnfchaaAppI
import Derived.Deep.RegionLaw
import Derived.Deep.DeepCutAuto
namespace Go.Proofs.Ytdfkmkflcnfchaa
open Go.ChangeShapes Go.WideShapes Go.ChangeAt Go.RowKit CellM

/-- How many ahead are less. -/
def lead (x : Int) : List Int → Nat
  | [] => 0
  | a :: l => if a < x then lead x l + 1 else 0
theorem lead_cons (x a : Int) (l : List Int) : lead x (a :: l) = if a < x then lead x l + 1 else 0 := rfl
theorem lead_le (x : Int) : ∀ l, lead x l ≤ l.length
  | [] => Nat.le_refl _
  | a :: l => by
    have := lead_le x l
    unfold lead
    split
    · rw [List.length_cons]; omega
    · exact Nat.zero_le _
theorem lead_lt (x : Int) : ∀ (l : List Int) (j : Nat) (hj : j < l.length), j < lead x l → l[j] < x
  | [], _, h, _ => absurd h (by simp)
  | a :: l, j, h, hl => by
    unfold lead at hl
    split at hl
    · next ha =>
      cases j with
      | zero => exact ha
      | succ j => exact lead_lt x l j (by simpa using h) (by omega)
    · omega
theorem lead_at (x : Int) : ∀ (l : List Int) (hj : lead x l < l.length), ¬ l[lead x l] < x
  | [], h => absurd h (by simp [lead])
  | a :: l, h => by
    by_cases ha : a < x
    · have e : lead x (a :: l) = lead x l + 1 := by rw [lead_cons, if_pos ha]
      have h2 : lead x l < l.length := by rw [e, List.length_cons] at h; omega
      have := lead_at x l h2
      simp only [e, List.getElem_cons_succ]; exact this
    · have e : lead x (a :: l) = 0 := by rw [lead_cons, if_neg ha]
      simp only [e, List.getElem_cons_zero]; exact ha
def ins (x : Int) (l : List Int) : List Int := l.take (lead x l) ++ ([x] ++ l.drop (lead x l))
theorem ins_len (x : Int) (l : List Int) : (ins x l).length = l.length + 1 := by
  have := lead_le x l
  unfold ins
  rw [List.length_append, List.length_append, List.length_take, List.length_drop, List.length_singleton]; omega
theorem ins_perm (x : Int) (l : List Int) : (ins x l).Perm (x :: l) := by
  unfold ins
  have h : (l.take (lead x l) ++ ([x] ++ l.drop (lead x l))).Perm ([x] ++ (l.take (lead x l) ++ l.drop (lead x l))) := by
    rw [← List.append_assoc, ← List.append_assoc]
    exact List.Perm.append_right _ List.perm_append_comm
  rw [List.take_append_drop] at h
  exact h
theorem ins_cons (x a : Int) (l : List Int) : ins x (a :: l) = if a < x then a :: ins x l else x :: a :: l := by
  unfold ins
  rw [lead_cons]
  split
  · rw [List.take_succ_cons, List.drop_succ_cons]; rfl
  · rfl
theorem ins_sorted (x : Int) : ∀ (l : List Int), l.Pairwise (· ≤ ·) → (ins x l).Pairwise (· ≤ ·)
  | [], _ => by simp [ins, lead]
  | a :: l, h => by
    rw [ins_cons]
    rw [List.pairwise_cons] at h
    split
    · next ha =>
      rw [List.pairwise_cons]
      refine ⟨fun y hy => ?_, ins_sorted x l h.2⟩
      rcases List.mem_cons.1 ((ins_perm x l).mem_iff.1 hy) with rfl | hy
      · omega
      · exact h.1 y hy
    · next ha =>
      rw [List.pairwise_cons]
      refine ⟨fun y hy => ?_, List.pairwise_cons.2 h⟩
      rcases List.mem_cons.1 hy with rfl | hy
      · omega
      · have := h.1 y hy; omega
def usedN (no : List Int) : Nat → List Int
  | 0 => []
  | k + 1 => ins (no.getD k 0) (usedN no k)
theorem usedN_len (no : List Int) : ∀ k, (usedN no k).length = k
  | 0 => rfl
  | k + 1 => by unfold usedN; rw [ins_len, usedN_len no k]
theorem usedN_sorted (no : List Int) : ∀ k, (usedN no k).Pairwise (· ≤ ·)
  | 0 => List.Pairwise.nil
  | k + 1 => ins_sorted _ _ (usedN_sorted no k)
theorem usedN_perm (no : List Int) : ∀ k, k ≤ no.length → (usedN no k).Perm (no.take k)
  | 0, _ => by simp [usedN]
  | k + 1, h => by
    have h2 : k < no.length := by omega
    unfold usedN
    rw [List.take_succ_eq_append_getElem h2]
    refine (ins_perm _ _).trans ?_
    rw [show no.getD k 0 = no[k] by rw [List.getD_eq_getElem?_getD, List.getElem?_eq_getElem h2]; rfl]
    exact ((usedN_perm no k (by omega)).cons _).trans (List.perm_append_singleton _ _).symm
theorem sortI_of {l m : List Int} (hp : l.Perm m) (hs : l.Pairwise (· ≤ ·)) : sortI m = l := by
  have tr : ∀ a b c : Int, (decide (a ≤ b)) = true → (decide (b ≤ c)) = true → (decide (a ≤ c)) = true := fun a b c h1 h2 => by simp only [decide_eq_true_eq] at *; omega
  have tot : ∀ a b : Int, (decide (a ≤ b) || decide (b ≤ a)) = true := fun a b => by simp only [Bool.or_eq_true, decide_eq_true_eq]; omega
  unfold sortI
  refine List.Perm.eq_of_pairwise (le := fun a b => a ≤ b) (fun a b _ _ h1 h2 => by omega) ?_ hs ((List.mergeSort_perm m _).trans hp.symm)
  exact (List.pairwise_mergeSort tr tot m).imp (fun h => by simpa using h)
theorem usedN_all (no : List Int) : usedN no no.length = sortI no := by
  have h := usedN_perm no no.length (Nat.le_refl _)
  rw [List.take_length] at h
  exact (sortI_of h (usedN_sorted no _)).symm
theorem own_zero (w : World) (B : Nat) (hB : B ≤ w.heap.size) : OwnI (w.alloc (.cells #[] 3)) B (.slice (some ⟨w.heap.size, 0, none⟩) 0 0) [] := by
  unfold OwnI
  exact World.ownsRow_lit (e := 3) (size := 1) w #[] 0 hB (by decide) (by simp)
theorem RI.keepB {w w' : World} {A : Option Addr} {c : Nat} {l : List Int} (h : RI w A c l) (hb : Below w.heap.size w w') : RI w' A c l := h.below hb
theorem own_one_drew (w : World) (d : Int) (B : Nat) (hB : B ≤ w.heap.size) {n : Nat} : OwnI ((w.alloc (.cells #[.int .i64 d] 3)).drewN n) B (.slice (some ⟨w.heap.size, 0, none⟩) 1 1) [d] := own_one w d B hB
theorem bl_alloc_drewN (w : World) (o : Obj) (n : Nat) : Below w.heap.size w ((w.alloc o).drewN n) := below_drewN ((Below.refl _ _).alloc (Nat.le_refl _) o) n
section
variable {w : World} {rb : Nat} {SV : Value} {no : List Int} {R : Int → Rs} {G : Nat → Prop} {NA CA : Option Addr} {nh nc ch cc : Nat} {rp : Int → Nat} {Gc : Int → Nat → Prop}
set_option maxRecDepth 20000 in
set_option maxHeartbeats 8000000 in
theorem usedRB_is (H : RBAtD w rb SV no R G NA CA nh nc ch cc rp Gc) (hlen : no.length ≤ 1000) :
    Calls Try.prog 17 #[.pointer (some ⟨rb, 0, none⟩)] w fun e w' => ∃ A c, e = .returned (.slice A no.length c) ∧ RI w' A c (sortI no) ∧ Below w.heap.size w w' := by
  have HH := Lib.hid H
  have c1 := H.n.1
  clear H
  go_enter Try.func17, Try.ntmps17
  go_wp2_with fail
  go_loopw [3, 4] (fun o i wr => ∃ k : Nat, k ≤ no.length ∧ i = .int .i64 k ∧ Hid (OwnI wr w.heap.size o (usedN no k) ∧ Below w.heap.size w wr)) (fun _ i _ => no.length - (Go.RowKit.intOf i).toNat)
  case atStart => exact ⟨0, by omega, rfl, Lib.hid ⟨OwnI.nil _ _, .refl _ _⟩⟩
  case round =>
    obtain ⟨k, hk, rfl, HR⟩ := hrel
    clear c1
    have c1 := (HH.out.below HR.out.2).n.1
    by_cases hlt : k < no.length
    · have dk : decide ((k : Int) < (no.length : Int)) = true := by simp [hlt]
      obtain ⟨rfl, x0, _, _⟩ := (HH.out.below HR.out.2).at_ hlt
      obtain ⟨x, hx⟩ : ∃ x, no[k] = x := ⟨_, rfl⟩
      rw [hx] at x0
      have hgx : no.getD k 0 = x := by rw [List.getD_eq_getElem?_getD, List.getElem?_eq_getElem hlt, ← hx]; rfl
      obtain ⟨A, c, rfl, hri⟩ := HR.out.1.reads
      have hul := usedN_len no k
      obtain ⟨l, hl⟩ : ∃ l, usedN no k = l := ⟨_, rfl⟩
      have HU := Lib.hid (show usedN no (k + 1) = ins x l by rw [← hl, ← hgx]; rfl)
      rw [hl] at hul hri HR
      rw [hul] at HR
      have hle := lead_le x l
      rw [hl, hul]
      rw [hul] at hle
      have HRI := Lib.hid hri
      have HLT := Lib.hid (fun (j : Nat) (hj : j < l.length) (h : j < lead x l) => lead_lt x l j hj h)
      have HLA := Lib.hid (fun (hj : lead x l < l.length) => lead_at x l hj)
      obtain ⟨q, hq⟩ : ∃ q, lead x l = q := ⟨_, rfl⟩
      rw [hq] at hle HLT HLA
      have HQ := Lib.hid hq
      obtain ⟨W, hW⟩ : ∃ W, W = wr := ⟨_, rfl⟩
      rw [← hW] at c1 x0 hri HR HRI ⊢
      clear hq hx hgx hl hri hW
      go_wp2_with fail
      go_loopw [5] (fun j wx => ∃ m z : Nat, m ≤ q ∧ j = .int .i64 m ∧ wx = W.drewN z) (fun j _ => q - (Go.RowKit.intOf j).toNat)
      case atStart => exact ⟨0, 0, by omega, rfl, rfl⟩
      case round =>
        obtain ⟨m, z, hm, rfl, rfl⟩ := hrel
        by_cases hmq : m < q
        · have hml : m < l.length := by omega
          obtain ⟨ad, rfl, y0⟩ := HRI.out.at_ hml
          have hmk : m < k := by omega
          have d1 : decide ((m : Int) < (k : Int)) = true := by simp; omega
          have d2 : decide (l[m] < x) = true := by simpa using HLT.out m hml hmq
          go_wp2_with fail
          go_quiet (fail)
          go_wp2_with fail
          go_roundw
          case rel => exact ⟨m + 1, _, by omega, by go_num, by first | rfl | (rw [World.drewN_drewN])⟩
          case measure => simp [Go.RowKit.intOf]; omega
        · obtain rfl : m = q := by omega
          clear hm hmq
          by_cases hmk : m < k
          · have hml : m < l.length := by omega
            obtain ⟨ad, hA, y0⟩ := HRI.out.at_ hml
            subst hA
            have d1 : decide ((m : Int) < (k : Int)) = true := by simp; omega
            have d2 : decide (l[m] < x) = false := by simpa using HLA.out hml
            obtain ⟨A2, hsl, hrd, hdl⟩ := cutFromI HRI.out hul (k := m) (by omega)
            obtain ⟨hst, hrt, htl⟩ := cutToI HRI.out hul (k := m) (by omega)
            have HD := Lib.hid (And.intro hrd (And.intro hdl (And.intro hrt htl)))
            have HI := Lib.hid (show ins x l = l.take m ++ ([x] ++ l.drop m) by unfold ins; rw [HQ.out])
            have HONE := Lib.hid (fun (wx : World) (hb : w.heap.size ≤ wx.heap.size) => own_one wx x w.heap.size hb)
            have hBsz := HR.out.2.size
            have hn1 := (HH.out.below HR.out.2).n
            have c1a : ∀ (n : Nat) (o : Obj), ((W.drewN n).alloc o).cell? ⟨rb, 1, none⟩ = some (.slice (some ⟨nh, 0, none⟩) no.length nc) := fun n o => (Has.alloc (w := W.drewN n) (p := ⟨rb, 1, none⟩) hn1 o).1
            clear hrd hdl hrt htl hn1
            go_wp2_with fail
            go_quiet (fail)
            go_upto_region 8 with fail
            go_cut [6] (fun s wx => Hid (OwnI wx W.heap.size s ([x] ++ l.drop m) ∧ Below W.heap.size W wx))
            case first =>
              go_region_law (refine step_app_ints rfl _ _ rfl W.heap.size _ [x] rfl (own_one_drew _ _ _ (Nat.le_refl _)) A2 _ (c - m) (l.drop m) rfl (RI.below HD.out.1 (by first | exact bl_drewN_alloc _ _ _ | exact bl_alloc_drewN _ _ _)) (by have := HD.out.2.1; omega) (by simp only [List.length_singleton, List.length_drop]; omega) (by simp) ?_; intro v' w3 hv' hB3; have F := Lib.hid (And.intro hv' (Below.trans (by first | exact bl_drewN_alloc _ _ _ | exact bl_alloc_drewN _ _ _) hB3)); clear hv' hB3)
              all_goals
                go_wp2_with fail
                go_meet
                exact F
            case rest =>
              clear c1a c1 x0 HONE HLT HLA
              obtain ⟨hv6, hB6⟩ := hcut.out
              obtain ⟨A6, c6, hu6, hr6⟩ := hv6.reads
              obtain ⟨n6, hn6⟩ : ∃ n6, ([x] ++ l.drop m).length = n6 := ⟨_, rfl⟩
              rw [hn6] at hu6
              subst hu6
              have hl6 : n6 ≤ 2000 := by rw [← hn6]; simp only [List.length_append, List.length_singleton, List.length_drop]; omega
              have HR6 := Lib.hid (And.intro hr6 hn6)
              have HRT := Lib.hid (RI.keepB HD.out.2.2.1 hB6)
              have hbw : Below w.heap.size w wc := HR.out.2.trans (hB6.mono hBsz)
              have hsw : w.heap.size ≤ wc.heap.size := hbw.size
              have HBW := Lib.hid hbw
              clear hcut hv6 hB6 hr6 hn6 hbw
              go_wp2_with (first
                | (at_builtin
                   refine app_ints rfl _ _ rfl wc.heap.size _ [] rfl (own_zero _ _ (Nat.le_refl _)) _ _ c (l.take m) rfl (HRT.out.below ((Below.refl _ _).alloc (Nat.le_refl _) _)) HD.out.2.2.2 (by simp only [List.length_nil, List.length_take]; omega) (by simp) ?_
                   intro v9 w9 hv9 hB9
                   have hB9' : Below wc.heap.size wc w9 := ((Below.refl _ _).alloc (Nat.le_refl _) _).trans hB9
                   have HV9 := Lib.hid (And.intro hv9 (And.intro hB9' (HR6.out.1.below hB9')))
                   clear hv9 hB9 hB9')
                | (at_builtin
                   refine app_ints rfl _ _ rfl wc.heap.size _ ([] ++ l.take m) rfl HV9.out.1 A6 _ c6 ([x] ++ l.drop m) rfl HV9.out.2.2 HR6.out.2 (by simp only [List.length_nil, List.length_append, List.length_singleton, List.length_take, List.length_drop]; omega) HV9.out.2.1.size ?_
                   intro v10 w10 hv10 hB10
                   have hF : OwnI w10 w.heap.size v10 (usedN no (k + 1)) ∧ Below w.heap.size w w10 := by
                     refine ⟨?_, (HBW.out.trans (HV9.out.2.1.mono hsw)).trans (hB10.mono hsw)⟩
                     rw [HU.out, HI.out]
                     simp only [List.nil_append] at hv10
                     exact hv10.mono hsw
                   have F := Lib.hid hF
                   clear hF hv10 hB10))
              go_roundw
              case rel => exact ⟨k + 1, by omega, by go_num, F⟩
              case measure => simp [Go.RowKit.intOf]; omega
          · obtain rfl : m = k := by omega
            have d1 : decide ((m : Int) < (m : Int)) = false := by simp
            obtain ⟨A2, hsl, hrd, hdl⟩ := cutFromI HRI.out hul (k := m) (by omega)
            obtain ⟨hst, hrt, htl⟩ := cutToI HRI.out hul (k := m) (by omega)
            have HD := Lib.hid (And.intro hrd (And.intro hdl (And.intro hrt htl)))
            have HI := Lib.hid (show ins x l = l.take m ++ ([x] ++ l.drop m) by unfold ins; rw [HQ.out])
            have HONE := Lib.hid (fun (wx : World) (hb : w.heap.size ≤ wx.heap.size) => own_one wx x w.heap.size hb)
            have hBsz := HR.out.2.size
            have hn1 := (HH.out.below HR.out.2).n
            have c1a : ∀ (n : Nat) (o : Obj), ((W.drewN n).alloc o).cell? ⟨rb, 1, none⟩ = some (.slice (some ⟨nh, 0, none⟩) no.length nc) := fun n o => (Has.alloc (w := W.drewN n) (p := ⟨rb, 1, none⟩) hn1 o).1
            clear hrd hdl hrt htl hn1
            go_wp2_with fail
            go_quiet (fail)
            go_upto_region 8 with fail
            go_cut [6] (fun s wx => Hid (OwnI wx W.heap.size s ([x] ++ l.drop m) ∧ Below W.heap.size W wx))
            case first =>
              go_region_law (refine step_app_ints rfl _ _ rfl W.heap.size _ [x] rfl (own_one_drew _ _ _ (Nat.le_refl _)) A2 _ (c - m) (l.drop m) rfl (RI.below HD.out.1 (by first | exact bl_drewN_alloc _ _ _ | exact bl_alloc_drewN _ _ _)) (by have := HD.out.2.1; omega) (by simp only [List.length_singleton, List.length_drop]; omega) (by simp) ?_; intro v' w3 hv' hB3; have F := Lib.hid (And.intro hv' (Below.trans (by first | exact bl_drewN_alloc _ _ _ | exact bl_alloc_drewN _ _ _) hB3)); clear hv' hB3)
              all_goals
                go_wp2_with fail
                go_meet
                exact F
            case rest =>
              clear c1a c1 x0 HONE HLT HLA
              obtain ⟨hv6, hB6⟩ := hcut.out
              obtain ⟨A6, c6, hu6, hr6⟩ := hv6.reads
              obtain ⟨n6, hn6⟩ : ∃ n6, ([x] ++ l.drop m).length = n6 := ⟨_, rfl⟩
              rw [hn6] at hu6
              subst hu6
              have hl6 : n6 ≤ 2000 := by rw [← hn6]; simp only [List.length_append, List.length_singleton, List.length_drop]; omega
              have HR6 := Lib.hid (And.intro hr6 hn6)
              have HRT := Lib.hid (RI.keepB HD.out.2.2.1 hB6)
              have hbw : Below w.heap.size w wc := HR.out.2.trans (hB6.mono hBsz)
              have hsw : w.heap.size ≤ wc.heap.size := hbw.size
              have HBW := Lib.hid hbw
              clear hcut hv6 hB6 hr6 hn6 hbw
              go_wp2_with (first
                | (at_builtin
                   refine app_ints rfl _ _ rfl wc.heap.size _ [] rfl (own_zero _ _ (Nat.le_refl _)) _ _ c (l.take m) rfl (HRT.out.below ((Below.refl _ _).alloc (Nat.le_refl _) _)) HD.out.2.2.2 (by simp only [List.length_nil, List.length_take]; omega) (by simp) ?_
                   intro v9 w9 hv9 hB9
                   have hB9' : Below wc.heap.size wc w9 := ((Below.refl _ _).alloc (Nat.le_refl _) _).trans hB9
                   have HV9 := Lib.hid (And.intro hv9 (And.intro hB9' (HR6.out.1.below hB9')))
                   clear hv9 hB9 hB9')
                | (at_builtin
                   refine app_ints rfl _ _ rfl wc.heap.size _ ([] ++ l.take m) rfl HV9.out.1 A6 _ c6 ([x] ++ l.drop m) rfl HV9.out.2.2 HR6.out.2 (by simp only [List.length_nil, List.length_append, List.length_singleton, List.length_take, List.length_drop]; omega) HV9.out.2.1.size ?_
                   intro v10 w10 hv10 hB10
                   have hF : OwnI w10 w.heap.size v10 (usedN no (m + 1)) ∧ Below w.heap.size w w10 := by
                     refine ⟨?_, (HBW.out.trans (HV9.out.2.1.mono hsw)).trans (hB10.mono hsw)⟩
                     rw [HU.out, HI.out]
                     simp only [List.nil_append] at hv10
                     exact hv10.mono hsw
                   have F := Lib.hid hF
                   clear hF hv10 hB10))
              go_roundw
              case rel => exact ⟨m + 1, by omega, by go_num, F⟩
              case measure => simp [Go.RowKit.intOf]; omega
    · obtain rfl : k = no.length := by omega
      have dk : decide ((no.length : Int) < (no.length : Int)) = false := by simp
      have HF := Lib.hid HR.out.1.reads
      rw [usedN_all, sortI_len] at HF
      obtain ⟨A, c, rfl, hri⟩ := HF.out
      have HRI := Lib.hid hri
      clear HF hri
      go_wp2_with fail
      go_ret
      exact ⟨A, c, rfl, HRI.out, HR.out.2⟩
end
end Go.Proofs.Ytdfkmkflcnfchaa
