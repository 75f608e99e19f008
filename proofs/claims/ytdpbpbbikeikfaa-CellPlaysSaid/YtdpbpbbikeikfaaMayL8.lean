/- CellMay: what a read may tell. Own work. -/
import Derived.Test.YtdpbpbbikeikfaaMayH8
import Derived.Deep.DeepCutAuto
namespace Go.Proofs.Ytdpbpbbikeikfaa
open Go.ChangeShapes Go.WideShapes Go.ChangeAt Go.RowKit CellM

theorem setCell_size (w : World) (p : Addr) (y : Value) : (w.setCell p y).heap.size = w.heap.size := by simp [World.setCell]
/-- The loop's state, k calls made. -/
def MayAt (B : Nat) (w0 w : World) (cb gR : Nat) (K T : Int) (V : Value) (k : Nat) : Prop :=
  ∃ S Wr R F h o c, MH B w0 w cb gR S V Wr R F h o c ∧ CellM.Good S (9 * k) ∧ May S T Wr R ∧ Wr.length ≤ k + 1 ∧ S.kind = K
theorem beg_kind (S : St) (t k v : Int) : (beg S t k v).kind = S.kind := by
  unfold beg; split
  · rfl
  · split <;> rfl
theorem fin_kind (S : St) (t : Int) : (fin S t).kind = S.kind := by
  unfold fin; split
  · rfl
  · unfold endS; split <;> rfl
/-- As the loop begins. -/
theorem may_start (w w1 : World) (K T : Int) (hT : 0 ≤ T ∧ T ≤ 1099511627776) (hP : PAt w1 w.heap.size (new K T) (fun b => w.heap.size ≤ b)) (hB : Below w.heap.size w w1) (cs : Array Value) (hcs : ∀ t, t < 8 → cs[t]? = some (.bool false)) (ti tb : TypeId) (g1 g2 : Nat) (e1 : g1 = w1.heap.size) (e2 : g2 = w1.heap.size + 1) :
    MayAt w.heap.size w ((w1.alloc (.cells #[.int .i64 0] ti)).alloc (.cells cs tb)) w.heap.size g2 K T (.slice (some ⟨g1, 0, none⟩) 1 1) 0 := by
  subst e1; subst e2
  have hs1 : (w1.alloc (.cells #[.int .i64 0] ti)).heap.size = w1.heap.size + 1 := alloc_size _ _
  have hs2 : ((w1.alloc (.cells #[.int .i64 0] ti)).alloc (.cells cs tb)).heap.size = w1.heap.size + 2 := by rw [alloc_size, hs1]
  have hsz := hB.size
  have h0 : Has ((w1.alloc (.cells #[.int .i64 0] ti)).alloc (.cells cs tb)) ⟨w1.heap.size, 0, none⟩ (.int .i64 0) := (has_new _ _ _ 0 _ rfl).alloc _
  refine ⟨_, [0], fun _ => false, fun b => w.heap.size ≤ b ∧ b < w1.heap.size, w1.heap.size, 0, 1, ⟨(hP.tight.alloc _).alloc _, fun b hb => by omega, fun b hb => hb.1, ⟨rfl, Nat.le_refl _, by decide, fun k x hx => ?_, fun k hk => ?_⟩, fun hb => by omega, by omega, hsz, fun hb => by omega, fun t ht => has_at hs1.symm (hcs t ht), by omega,
    ((hB.alloc hsz _).alloc (by rw [hs1]; omega) _), by omega, by simp⟩, new_good K T, may_new K hT, by simp, rfl⟩
  · cases k with
    | zero => simp at hx; subst hx; exact h0
    | succ k => simp at hx
  · obtain rfl : k = 0 := by omega
    exact ⟨_, h0⟩
/-- The last k values' test. -/
def among (l : List Int) (v : Int) : Bool := l.any fun x => x == v
theorem among_next {l : List Int} {v : Int} {n : Nat} (h : n < l.length) : among (l.take (n + 1)) v = (among (l.take n) v || (l[n] == v)) := by
  unfold among
  rw [List.take_succ_eq_append_getElem h, List.any_append]
  simp
theorem among_mem {l : List Int} {v : Int} (h : v ∈ l) : among l v = true := by
  unfold among
  rw [List.any_eq_true]
  exact ⟨v, h, by simp⟩
set_option maxHeartbeats 8000000 in
set_option maxRecDepth 20000 in
theorem may_is (w : World) (kind top : Int) (hkd : 0 ≤ kind ∧ kind < 256) (htp : 0 ≤ top ∧ top < 65536) (A : Option Addr) (c n : Nat) (L : List Ac2) (hn : L.length = n) (hr : RA w A c L) :
    Calls Try.prog 5 #[.int .u8 kind, .int .u16 top, .slice A n c] w fun e w' => e = .returned (.bool true) ∧ Below w.heap.size w w' := by
  subst hn
  have hmax : L.length ≤ maxLen := Nat.le_trans hr.1 hr.2.1
  unfold maxLen at hmax
  have R := Lib.hid hr; clear hr
  by_cases hl : L.length ≤ 80
  · go_enter Try.func5, Try.ntmps5
    go_wp2_with fail
    refine (new_is w (1 + kind % 3) top).mono ?_; rintro e w1 ⟨rfl, hP, hB⟩
    have htop : 0 ≤ top ∧ top ≤ 1099511627776 := by omega
    have PB := Lib.hid (And.intro hP hB); clear hP hB
    go_wp2_with fail
    have M0 := Lib.hid (may_start w w1 (1 + kind % 3) top htop PB.out.1 PB.out.2 #[.bool false, .bool false, .bool false, .bool false, .bool false, .bool false, .bool false, .bool false] (fun t ht => by
      have h9 : t = 0 ∨ t = 1 ∨ t = 2 ∨ t = 3 ∨ t = 4 ∨ t = 5 ∨ t = 6 ∨ t = 7 := by omega
      rcases h9 with rfl | rfl | rfl | rfl | rfl | rfl | rfl | rfl <;> rfl) 3 46 _ _ rfl rfl)
    go_loopw [9, 11] (fun z i wr => ∃ k : Nat, k ≤ L.length ∧ i = .int .i64 k ∧ Hid (MayAt w.heap.size w wr w.heap.size (w1.heap.size + 1) (1 + kind % 3) top z k)) (fun _ i _ => L.length - (intOf i).toNat)
    case atStart => exact ⟨0, by omega, rfl, M0⟩
    case round =>
      obtain ⟨k, hk, rfl, M⟩ := hrel
      by_cases hlt : k < L.length
      · obtain ⟨S, Wr, RR, F, h, o, c', hM, hG, hMay, hWl, hK⟩ := M.out
        obtain ⟨ad, rfl, hx0, hx1, hx2, hx3, hx4, hx5⟩ := (R.out.below (hM.below.mono (Nat.le_refl _))).2.2 k hlt
        clear M
        have hv := hM.cand.v
        subst hv
        obtain ⟨av, hav⟩ : ∃ av, av = L[k] := ⟨_, rfl⟩
        rw [← hav] at hx0 hx1 hx2 hx3 hx4 hx5
        clear hav
        obtain ⟨ae, t, dr, kk, cl, v⟩ := av
        simp only at hx0 hx1 hx2 hx3 hx4 hx5
        obtain ⟨hM1, hX1⟩ := hM.box #[.bool ae, .int .i64 t, .int .i64 dr, .int .i64 kk, .int .i64 cl, .int .i64 v] 33
        have HM := Lib.hid (And.intro hM1 hX1)
        have HS := Lib.hid (And.intro hG (And.intro hMay (And.intro hWl hK)))
        clear hM hM1 hX1 hG hMay hWl hK
        have hk9 : 9 * k ≤ 90000 := by omega
        cases ae
        case true =>
          by_cases hE : errE S t = 0
          · obtain ⟨ht, _⟩ := errE_zero hE
            obtain ⟨h0, h8⟩ := isT_iff ht
            obtain ⟨j, rfl⟩ := Int.eq_ofNat_of_zero_le h0
            have hj : j < 8 := by omega
            have dE : (errE S j != 0) = false := by simp [hE]
            go_wp2_with fail
            refine (HM.out.1.calls_end HM.out.2 HS.out.1 hk9 j dr).mono ?_; rintro e w2 ⟨rfl, F', hM, hX⟩
            have b1 := (hX.cells 1 _ rfl).1
            have r1 := (hM.reads j hj).1
            clear HM; have HM := Lib.hid (And.intro hM hX); clear hM hX
            by_cases hR : RR j = true
            · rw [hR] at r1
              have htold := HS.out.2.1.told HS.out.1 (t := (j : Int)) (draw := dr) hE (by simpa using hR)
              obtain ⟨q1, q2, q3⟩ := htold
              have HE := Lib.hid (show MayAt w.heap.size w w2 w.heap.size (w1.heap.size + 1) (1 + kind % 3) top (.slice (some ⟨h, o, none⟩) Wr.length c') (k + 1) from
                ⟨_, Wr, RR, F', h, o, c', HM.out.1, (fin_good HS.out.1 _).mono (by omega), HS.out.2.1.fin _, by have := HS.out.2.2.1; omega, by rw [fin_kind]; exact HS.out.2.2.2⟩)
              obtain ⟨fv, hfv⟩ : ∃ fv, finV S (j : Int) dr = fv := ⟨_, rfl⟩
              rw [hfv] at q1 q2 q3 ⊢
              have Q3 := Lib.hid q3; clear q3 hfv
              have hwl : Wr.length ≤ 82 := by have := HS.out.2.2.1; omega
              obtain ⟨W2, hW2⟩ : ∃ W2, W2 = w2 := ⟨_, rfl⟩
              go_wp2_with fail
              go_loopw [15, 16] (fun a b wx => ∃ m : Nat, m ≤ Wr.length ∧ b = .int .i64 m ∧ a = .bool (among (Wr.take m) fv) ∧ wx = W2) (fun _ b _ => Wr.length - (intOf b).toNat)
              case atStart => exact ⟨0, by omega, rfl, rfl, hW2.symm⟩
              case round =>
                obtain ⟨m, hm, rfl, rfl, rfl⟩ := hrel
                subst hW2
                by_cases hml : m < Wr.length
                · have cw := (HM.out.1.cand.at_ m Wr[m] (List.getElem?_eq_getElem hml)).1
                  have hnx := among_next (v := fv) hml
                  cases hb : among (Wr.take m) fv
                  · rw [hb] at hnx
                    go_wp2_with fail
                    go_roundw
                    case rel => exact ⟨m + 1, by omega, by go_num, by rw [hnx]; simp, by first | trivial | rfl⟩
                    case measure => simp [intOf]; omega
                  · rw [hb] at hnx
                    go_wp2_with fail
                    go_roundw
                    case rel => exact ⟨m + 1, by omega, by go_num, by rw [hnx]; simp, by first | trivial | rfl⟩
                    case measure => simp [intOf]; omega
                · obtain rfl : m = Wr.length := by omega
                  rw [List.take_length]
                  have g1 : ¬ fv < 0 := by omega
                  have g2 : ¬ top < fv := by omega
                  have g1' : decide (fv < 0) = false := by simp; omega
                  have g2' : decide (top < fv) = false := by simp; omega
                  by_cases hK1 : kind % 3 = 0
                  · have g3 : (1 + kind % 3 != 1) = false := by simp [hK1]
                    go_wp2_with fail
                    go_roundw
                    case rel => exact ⟨k + 1, by omega, by go_num, HE⟩
                    case measure => simp [intOf]; omega
                  · have g3 : (1 + kind % 3 != 1) = true := by simp; omega
                    have g4 : among Wr fv = true := among_mem (Q3.out (by rw [HS.out.2.2.2]; omega))
                    rw [g4]
                    go_wp2_with fail
                    go_roundw
                    case rel => exact ⟨k + 1, by omega, by go_num, HE⟩
                    case measure => simp [intOf]; omega
            · rw [show RR j = false by simpa using hR] at r1
              go_wp2_with fail
              go_roundw
              case rel => exact ⟨k + 1, by omega, by go_num, Lib.hid ⟨_, Wr, RR, F', h, o, c', HM.out.1, (fin_good HS.out.1 _).mono (by omega), HS.out.2.1.fin _, by have := HS.out.2.2.1; omega, by rw [fin_kind]; exact HS.out.2.2.2⟩⟩
              case measure => simp [intOf]; omega
          · have dE : (errE S t != 0) = true := by simp [hE]
            go_wp2_with fail
            refine (HM.out.1.calls_end HM.out.2 HS.out.1 hk9 t dr).mono ?_; rintro e w2 ⟨rfl, F', hM, hX⟩
            clear HM; have HM := Lib.hid (And.intro hM hX); clear hM hX
            go_wp2_with fail
            go_roundw
            case rel => exact ⟨k + 1, by omega, by go_num, Lib.hid ⟨_, Wr, RR, F', h, o, c', HM.out.1, (fin_good HS.out.1 _).mono (by omega), HS.out.2.1.fin _, by have := HS.out.2.2.1; omega, by rw [fin_kind]; exact HS.out.2.2.2⟩⟩
            case measure => simp [intOf]; omega
        case false =>
          by_cases hE : errB S t kk = 0
          · obtain ⟨ht, hkk, _⟩ := errB_zero hE
            obtain ⟨h0, h8⟩ := isT_iff ht
            obtain ⟨j, rfl⟩ := Int.eq_ofNat_of_zero_le h0
            have hj : j < 8 := by omega
            have dE : (errB S j kk == 0) = true := by simp [hE]
            go_wp2_with fail
            refine (HM.out.1.calls_beg HM.out.2 HS.out.1 hk9 j kk cl v).mono ?_; rintro e w2 ⟨rfl, F', hM, hX⟩
            have b1 := (hX.cells 1 _ rfl).1
            have b3 := (hX.cells 3 _ rfl).1
            have r1 := (hM.reads j hj).1
            have f1 := (hM.reads j hj).2
            clear HM; have HM := Lib.hid (And.intro hM hX); clear hM hX
            rcases hkk with rfl | rfl
            · have hM2 := HM.out.1.setR hj true
              have hX2 := HM.out.2.setR j (.bool true)
              have y1 := (hX2.cells 1 _ rfl).1
              have yr := (hM2.reads j hj).1
              rw [upd_same] at yr
              have hm2 := HS.out.2.1.beg_read (t := (j : Int)) (v := v) hE
              have htn : ((j : Int)).toNat = j := by omega
              rw [htn] at hm2
              have HE := Lib.hid (show MayAt w.heap.size w (w2.setCell ⟨w1.heap.size + 1, j, none⟩ (.bool true)) w.heap.size (w1.heap.size + 1) (1 + kind % 3) top (.slice (some ⟨h, o, none⟩) Wr.length c') (k + 1) from
                ⟨_, Wr, _, F', h, o, c', hM2, (beg_good HS.out.1 _ _ _).mono (by omega), hm2, by have := HS.out.2.2.1; omega, by rw [beg_kind]; exact HS.out.2.2.2⟩)
              clear hM2 hX2 hm2
              go_wp2_with fail
              go_roundw
              case rel => exact ⟨k + 1, by omega, by go_num, HE⟩
              case measure => simp [intOf]; omega
            · have hM2 := HM.out.1.setR hj false
              have hX2 := HM.out.2.setR j (.bool false)
              have y1 := (hX2.cells 1 _ rfl).1
              have y5 := (hX2.cells 5 _ rfl).1
              have yr := (hM2.reads j hj).1
              rw [upd_same] at yr
              have hm2 := HS.out.2.1.beg_write (by omega) (t := (j : Int)) (v := v) hE
              have htn : ((j : Int)).toNat = j := by omega
              rw [htn] at hm2
              have HN := Lib.hid (And.intro hM2 (And.intro hX2 hm2))
              clear hM2 hX2 hm2
              have hwl : Wr.length ≤ 100000 := by have := HS.out.2.2.1; omega
              go_wp2_with fail
              refine (clampR_is _ _ (cap top v) (by rw [cap_in htop.1 htop.2]) _).mono ?_; rintro e w3 ⟨rfl, rfl⟩
              go_wp2_with (at_builtin; refine app_cand rfl _ _ rfl (HN.out.1.cand.alloc _) rfl hwl (ad := ⟨w2.heap.size, 0, none⟩) (m := cap top v) rfl ?c1 ?_)
              case c1 => exact (has_at (cs := #[.int .i64 (cap top v)]) (t := 3) (setCell_size _ _ _).symm rfl).1
              intro V' w4 hO
              have hb4 : ∀ wz : World, Below wz.heap.size wz (wz.alloc (.cells #[.int .i64 (cap top v)] 3)) := fun wz => (Below.refl _ _).alloc (Nat.le_refl _) _
              obtain ⟨h', o', c'', hM4, hX4⟩ := (HN.out.1.grow (hb4 _)).push (HN.out.2.1.grow (hb4 _)) hO
              have HE := Lib.hid (show MayAt w.heap.size w w4 w.heap.size (w1.heap.size + 1) (1 + kind % 3) top V' (k + 1) from
                ⟨_, _, _, F', h', o', c'', hM4, (beg_good HS.out.1 _ _ _).mono (by omega), HN.out.2.2, by rw [List.length_append]; have := HS.out.2.2.1; simp; omega, by rw [beg_kind]; exact HS.out.2.2.2⟩)
              clear hM4 hX4 hO hb4
              go_wp2_with fail
              go_roundw
              case rel => exact ⟨k + 1, by omega, by go_num, HE⟩
              case measure => simp [intOf]; omega
          · have dE : (errB S t kk == 0) = false := by simp [hE]
            go_wp2_with fail
            refine (HM.out.1.calls_beg HM.out.2 HS.out.1 hk9 t kk cl v).mono ?_; rintro e w2 ⟨rfl, F', hM, hX⟩
            clear HM; have HM := Lib.hid (And.intro hM hX); clear hM hX
            go_wp2_with fail
            go_roundw
            case rel => exact ⟨k + 1, by omega, by go_num, Lib.hid ⟨_, Wr, RR, F', h, o, c', HM.out.1, (beg_good HS.out.1 _ _ _).mono (by omega), by rw [beg_bad hE]; exact HS.out.2.1, by have := HS.out.2.2.1; omega, by rw [beg_kind]; exact HS.out.2.2.2⟩⟩
            case measure => simp [intOf]; omega
      · obtain rfl : k = L.length := by omega
        obtain ⟨S, Wr, RR, F, h, o, c', hM, hG, hMay, hWl, hK⟩ := M.out
        have MB := Lib.hid (And.intro hM.below hM.size)
        clear hM hG hMay hWl hK
        go_wp2_with fail
        refine (alive_is _).mono ?_; rintro e w' ⟨rfl, hB⟩
        have HB := Lib.hid hB; clear hB
        go_wp2_with fail
        go_ret
        exact ⟨rfl, MB.out.1.trans (HB.out.mono MB.out.2)⟩
  · go_enter Try.func5, Try.ntmps5
    go_wp2_with fail
    refine (alive_is _).mono ?_; rintro e w' ⟨rfl, hB⟩
    have HB := Lib.hid hB; clear hB
    go_wp2_with fail
    go_ret
    exact ⟨rfl, HB.out⟩
end Go.Proofs.Ytdpbpbbikeikfaa
