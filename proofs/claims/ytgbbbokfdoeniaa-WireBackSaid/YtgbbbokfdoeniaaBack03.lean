/- WireBack: its walk. Own work. -/
import Derived.Test.YtgbbbokfdoeniaaLaw03
import Derived.Deep.RegionHeld3
namespace Go.Proofs.Ytgbbbokfdoeniaa
open Go.ChangeShapes Go.WideShapes Go.ChangeAt Go.RowKit Wire

/-- Numbers of 32 bits that came in read as a list. -/
def Reads32 (w : World) (A : Option Addr) (l : List Nat) : Prop := ∀ k (h : k < l.length), ∃ ad, A = some ad ∧ ad.block < w.heap.size ∧ w.cell? (ad.add k) = some (.int .u32 ((l[k] : Nat) : Int)) ∧ l[k] < 4294967296
/-- The number that is put. -/
def modN (x : Nat) : Nat := x % 1073741824
theorem modN_lt (x : Nat) : modN x < 1073741824 := Nat.mod_lt _ (by decide)
/-- The bytes of all that is put. -/
def soFar (l : List Nat) : List UInt8 := l.flatMap fun x => putN (modN x)
theorem soFar_snoc (l : List Nat) {k : Nat} (h : k < l.length) : soFar (l.take (k + 1)) = soFar (l.take k) ++ putN (modN l[k]) := by
  unfold soFar; rw [List.take_succ_eq_append_getElem h, List.flatMap_append]; simp
theorem soFar_cons (l : List Nat) {k : Nat} (h : k < l.length) : soFar (l.drop k) = putN (modN l[k]) ++ soFar (l.drop (k + 1)) := by
  unfold soFar; rw [List.drop_eq_getElem_cons h, List.flatMap_cons]
theorem soFar_len (l : List Nat) : (soFar l).length ≤ 5 * l.length := by
  unfold soFar
  induction l with
  | nil => simp
  | cons a r ih =>
    have := putN_len5 (x := modN a) (by have := modN_lt a; omega)
    simp only [List.flatMap_cons, List.length_append, List.length_cons] at *; omega
theorem allN_one (M : List UInt8) (x : Nat) (h : x < 1073741824) : allN M [(x : Int)] = M ++ putN x := by
  unfold allN; simp only [List.flatMap_cons, List.flatMap_nil, List.append_nil]; rw [clampN_nat (by omega)]
theorem reads1 (w : World) (z : Int) : Reads (w.alloc (.cells #[.int .i64 z] 3)) (some ⟨w.heap.size, 0, none⟩) [z] := by
  intro k hk
  refine ⟨_, rfl, ?_⟩
  match k, hk with
  | 0, _ => simp [Addr.add]
theorem put_one (base : Nat) (v : Value) (M : List UInt8) (w : World) (x : Nat) (hx : x < 1073741824) (z : Int) (hz : z = x) (hown : OwnB w base v M) (hM : M.length ≤ 10000) (hb : base ≤ w.heap.size) :
    Calls Try.prog 9 #[v, .slice (some ⟨w.heap.size, 0, none⟩) 1 1] (w.alloc (.cells #[.int .i64 z] 3)) fun e w' => ∃ v', e = .returned v' ∧ OwnB w' base v' (M ++ putN x) ∧ Below w.heap.size w w' := by
  subst hz
  obtain ⟨A, c, rfl, hr⟩ := (hown.alloc (.cells #[.int .i64 x] 3)).reads
  refine (put_any _ A c M _ 1 [(x : Int)] _ hr (reads1 w x) hM (by simp)).mono ?_
  rintro e w' ⟨v', rfl, h1, h2⟩
  refine ⟨v', rfl, ?_, (below_alloc w _).trans (h2.mono (by simp))⟩
  rw [allN_one M x hx] at h1
  exact h1.lower (by simp; omega)
theorem numS_fail {L : List UInt8} {e most : Int} {n : Nat} {s' : List UInt8} {e' : Int} (h : numS L e most = (n, s', e')) (he : e' ≠ 0) : n = 0 ∧ s' = [] := by
  unfold numS at h
  repeat' split at h
  all_goals (cases h; simp_all)
theorem numS_good {L : List UInt8} {most : Int} {n : Nat} {s' : List UInt8} (h : numS L 0 most = (n, s', 0)) : ∃ sz, frontL 0 0 L = (n, sz, 0) ∧ s' = L.drop sz ∧ n ≤ 1073741823 := by
  obtain ⟨v, sz, er, hf⟩ : ∃ v sz er, frontL 0 0 L = (v, sz, er) := ⟨_, _, _, rfl⟩
  by_cases h0 : er = 0
  · subst h0
    by_cases hv : min most 1073741823 < (v : Int)
    · rw [numS_range hf hv] at h; cases h
    · rw [numS_ok hf hv] at h; cases h
      exact ⟨sz, hf, rfl, by omega⟩
  · rw [numS_bad hf h0] at h; cases h; exact absurd rfl h0
theorem mod_self (z : Nat) : (((modN z : Nat) : Int) != IntKind.i64.wrap ((z : Int).tmod 1073741824)) = false := by
  have e : (z : Int).tmod 1073741824 = ((modN z : Nat) : Int) := by unfold modN; rw [Int.tmod_eq_emod_of_nonneg (by omega)]; rfl
  have := modN_lt z
  have e2 : IntKind.i64.wrap ((modN z : Nat) : Int) = ((modN z : Nat) : Int) := by rw [IntKind.wrap_i64]; omega
  rw [e, e2]; simp
theorem numS_put (x : Nat) (hx : x < 1073741824) (r : List UInt8) : numS (putN x ++ r) 0 1073741824 = (x, r, 0) := by
  rw [numS_ok (front_put0 (by omega) r) (by omega)]
  simp
set_option maxHeartbeats 8000000 in
theorem back_walk (A : Option Addr) (c : Nat) (l : List Nat) (A' : Option Addr) (c' : Nat) (L : List UInt8) (w : World) (hr : Reads32 w A l) (hl : l.length ≤ maxLen) (h : BR w w.heap.size A' c' L) :
    Calls Try.prog 5 #[.slice A l.length c, .slice A' L.length c'] w fun e w' => e = .returned (.bool true) ∧ Below w.heap.size w w' := by
  have hL := h.max
  unfold maxLen at hL hl
  have H := Lib.hid h; clear h
  have R := Lib.hid hr; clear hr
  by_cases h1 : 60 < l.length
  · have h1' : (60 : Int) < l.length := by omega
    go_enter Try.func5, Try.ntmps5
    go_wp2_with fail
    refine (alive_any _).mono ?_; rintro e w1 ⟨rfl, hb1⟩
    go_wp2_with fail
    go_ret
    exact ⟨rfl, hb1⟩
  · have h1' : (l.length : Int) ≤ 60 := by omega
    by_cases h2 : 100 < L.length
    · have h2' : (100 : Int) < L.length := by omega
      go_enter Try.func5, Try.ntmps5
      go_wp2_with fail
      refine (alive_any _).mono ?_; rintro e w1 ⟨rfl, hb1⟩
      go_wp2_with fail
      go_ret
      exact ⟨rfl, hb1⟩
    · have h2' : (L.length : Int) ≤ 100 := by omega
      go_enter Try.func5, Try.ntmps5
      go_wp2_with fail
      go_loopw [5, 6] (fun v i wr => ∃ k : Nat, k ≤ l.length ∧ i = .int .i64 k ∧ Hid (OwnB wr w.heap.size v (soFar (l.take k))) ∧ Hid (Below w.heap.size w wr)) (fun _ i _ => l.length - (intOf i).toNat)
      case atStart => exact ⟨0, Nat.zero_le _, rfl, Lib.hid (OwnB.nil _ _), Lib.hid (Below.refl _ _)⟩
      case round =>
        obtain ⟨k, hk, rfl, hM, hB⟩ := hrel
        by_cases hlt : k < l.length
        · obtain ⟨ad, rfl, had, hc, hz⟩ := R.out k hlt
          have hc' : wr.cell? (ad.add k) = some (.int .u32 ((l[k] : Nat) : Int)) := (hB.out.cell (by rw [add_block]; exact had)).trans hc
          have hs := soFar_snoc l hlt
          have hlen := soFar_len (l.take k)
          rw [List.length_take] at hlen
          obtain ⟨z, hzz⟩ : ∃ z, z = l[k] := ⟨_, rfl⟩
          rw [← hzz] at hc' hs hz
          clear hzz hc
          have HS := Lib.hid hs; clear hs
          have hp := put_one w.heap.size u5 (soFar (l.take k)) wr (modN z) (modN_lt z) ((z : Int) % 1073741824) (by unfold modN; omega) hM.out (by omega) hB.out.size
          have HP := Lib.hid hp; clear hp
          go_wp2_with fail
          refine HP.out.mono ?_; rintro e w1 ⟨v1, rfl, hown, hb⟩
          go_wp2_with fail
          go_roundw
          case rel => exact ⟨k + 1, by omega, by go_num, Lib.hid (by rw [HS.out]; exact hown), Lib.hid (hB.out.trans (hb.mono hB.out.size))⟩
          case measure => simp [intOf]; omega
        · obtain rfl : k = l.length := by omega
          have ht : l.take l.length = l := List.take_length
          rw [ht] at hM
          clear ht
          have hlen := soFar_len l
          have hM' := hM.out
          go_wp2_with (at_builtin; refine app_bytes rfl _ _ rfl w.heap.size _ (soFar l) rfl hM.out w.heap.size A' _ c' L rfl (H.out.below hB.out) rfl ?c4 ?c5 ?_)
          case c4 => omega
          case c5 => exact hB.out.size
          intro v2 w2 hown hb
          obtain ⟨A2, c2, rfl, hr2⟩ := hown.reads
          have B2 := Lib.hid (hB.out.trans hb); clear hb hown
          have R2 := Lib.hid hr2; clear hr2
          go_wp2_with fail
          refine (newR_is _ A2 c2 ((soFar l).length + L.length) (soFar l ++ L) List.length_append _ R2.out (by omega)).mono ?_; rintro e w3 ⟨g, rfl, hA, hg, hg2, hb⟩
          have A3 := Lib.hid hA; clear hA
          have G : Hid (w.heap.size ≤ g) := Lib.hid (by have := B2.out.size; omega)
          have B3 := Lib.hid (B2.out.trans (hb.mono B2.out.size)); clear hb hg hg2
          clear hM hM'
          go_wp2_with fail
          go_loopw [8] (fun i wr => ∃ k : Nat, k ≤ l.length ∧ i = .int .i64 k ∧ Hid (RAt wr g (soFar (l.drop k) ++ L) 0) ∧ Hid (Below w.heap.size w wr)) (fun i _ => l.length - (intOf i).toNat)
          case atStart => exact ⟨0, Nat.zero_le _, rfl, A3, B3⟩
          case round =>
            obtain ⟨k, hk, rfl, hA, hB⟩ := hrel
            by_cases hlt : k < l.length
            · obtain ⟨ad, rfl, had, hc, hz⟩ := R.out k hlt
              have hc' : wr.cell? (ad.add k) = some (.int .u32 ((l[k] : Nat) : Int)) := (hB.out.cell (by rw [add_block]; exact had)).trans hc
              have hs := soFar_cons l hlt
              obtain ⟨z, hzz⟩ : ∃ z, z = l[k] := ⟨_, rfl⟩
              rw [← hzz] at hc' hs hz
              clear hzz hc
              have hA' := hA.out
              rw [hs, List.append_assoc] at hA'
              have hn := num_any g _ 0 1073741824 (modN z) (soFar (l.drop (k + 1)) ++ L) 0 (numS_put _ (modN_lt z) _) wr.drew hA'
              have HN := Lib.hid hn; clear hn hs hA'
              have hne : (ad.add k).block ≠ g := by rw [add_block]; have := G.out; omega
              have hself := mod_self z
              go_wp2_with fail
              go_region_held3 (fun wx => wx.cell? (ad.add k) = some (.int .u32 (z : Int))) (first | assumption)
                (first
                  | (go_at_call 14; refine HN.out.mono ?_; rintro r wa ⟨rfl, hA1, hgr⟩; have hca := cell_grown (show wr.drew.cell? (ad.add k) = some (.int .u32 (z : Int)) from hc') hgr hne; have HA1 := Lib.hid hA1; have HG := Lib.hid hgr; clear hA1 hgr))
              go_wp2_with fail
              go_roundw
              case rel => exact ⟨k + 1, by omega, by go_num, HA1, Lib.hid (hB.out.drew.grown HG.out (by have := hB.out.size; exact this) fun k hk => by cases hk; exact G.out)⟩
              case measure => simp [intOf]; omega
            · obtain rfl : k = l.length := by omega
              have hd : soFar (l.drop l.length) ++ L = L := by rw [List.drop_length]; rfl
              rw [hd] at hA
              clear hd
              go_wp2_with fail
              refine (err_any g L 0 _ hA.out).mono ?_; rintro r w' ⟨rfl, rfl⟩
              go_wp2_with fail
              refine (left_any g L 0 _ hA.out).mono ?_; rintro r w' ⟨rfl, rfl⟩
              obtain ⟨n, s', e', hn⟩ : ∃ n s' e', numS L 0 1073741824 = (n, s', e') := ⟨_, _, _, rfl⟩
              have HN := Lib.hid hn; clear hn
              go_wp2_with fail
              refine (num_any g L 0 1073741824 n s' e' HN.out _ hA.out).mono ?_; rintro r w5 ⟨rfl, hA5, hgr⟩
              have A5 := Lib.hid hA5
              have B5 := Lib.hid (hB.out.grown hgr hB.out.size fun k hk => by cases hk; exact G.out); clear hA5 hgr
              by_cases he : e' = 0
              · subst he
                obtain ⟨sz, hf, hs, hn2⟩ := numS_good HN.out
                subst hs
                obtain ⟨hsz, hsz0, hsz5, hput⟩ := front_back0 hf
                obtain ⟨m, hm⟩ : ∃ m, m = L.length - sz := ⟨_, rfl⟩
                have hdl : (L.drop sz).length = m := by rw [List.length_drop, hm]
                have hp := put_one w5.heap.size (.slice none 0 0) [] w5 n (by omega) (n : Int) rfl (OwnB.nil _ _) (by simp) (Nat.le_refl _)
                rw [List.nil_append, hput] at hp
                have HP := Lib.hid hp; clear hp
                have HM := Lib.hid hm; clear hm
                have HD := Lib.hid hdl; clear hdl
                have hwr : IntKind.i64.wrap ((L.length : Int) - (m : Int)) = (sz : Int) := by have := HM.out; rw [IntKind.wrap_i64]; omega
                have HW := Lib.hid hwr; clear hwr
                have hcap := H.out.1
                clear hput hf
                go_wp2_with fail
                refine (err_any g _ 0 _ A5.out).mono ?_; rintro r w' ⟨rfl, rfl⟩
                go_wp2_with fail
                refine HP.out.mono ?_; rintro r w6 ⟨v6, rfl, hown, hb⟩
                obtain ⟨A6, c6, rfl, hr6⟩ := hown.reads
                have hl6 : (L.take sz).length = sz := by rw [List.length_take]; omega
                obtain ⟨T, hT⟩ : ∃ T : ByteArray, T = ⟨(L.take sz).toArray⟩ := ⟨_, rfl⟩
                have r1 : BR w6.drew w6.heap.size A6 c6 (L.take sz) := hr6
                have r2 : BR w6.drew w6.heap.size A' c' (L.take sz) := (((H.out.take hsz).below B5.out).below (hb.mono B5.out.size).drew).more (Nat.le_trans B5.out.size hb.size)
                have hk : ∀ wx, Below w6.heap.size w6.drew wx → (convert 22 9 (.slice A6 sz c6)).run Try.prog wx = .ok (.string T) wx ∧ (convert 22 9 (.slice A' sz c')).run Try.prog wx = .ok (.string T) wx :=
                  fun wx hx => ⟨conv_is (r1.below hx) hl6 hT, conv_is (r2.below hx) hl6 hT⟩
                have HK := Lib.hid hk; clear hk r1 r2
                rw [hl6]
                have A6' := Lib.hid (show RAt w6.drew g _ 0 from A5.out.below hb.drew A5.out.lt)
                have B6 := Lib.hid (B5.out.trans (hb.mono B5.out.size))
                have hq := HW.out
                have hself : ((sz : Int) == (sz : Int)) = true := by simp
                have hb0 : (0 : Int) ≤ (sz : Int) := by omega
                have hb1 : (sz : Int) ≤ (c' : Int) := by omega
                clear hr6 hown hb hl6 hT
                go_wp2_with fail
                go_region_held3 (fun wx => (convert 22 9 (.slice A6 sz c6)).run Try.prog wx = .ok (.string T) wx ∧ (convert 22 9 (.slice A' sz c')).run Try.prog wx = .ok (.string T) wx) (first | exact HK.out _ (Below.refl _ _) | exact HK.out _ HB8.out)
                  (first
                    | (go_at_call 16; refine (left_is g _ 0 _ A6'.out m HD.out).mono ?_; rintro r w' ⟨rfl, rfl⟩)
                    | (go_at_call 7; refine (alive_any _).mono ?_; rintro r w8 ⟨rfl, hb8⟩; have HB8 := Lib.hid hb8; clear hb8))
                go_wp2_with fail
                go_ret
                exact ⟨rfl, B6.out.drew.trans (HB8.out.mono B6.out.size)⟩
              · obtain ⟨rfl, rfl⟩ := numS_fail HN.out he
                have hd : (e' != 0) = true := by simp; exact he
                have HE := Lib.hid he; clear he
                go_wp2_with fail
                refine (err_any g [] e' _ A5.out).mono ?_; rintro r w' ⟨rfl, rfl⟩
                go_wp2_with fail
                refine (left_is g [] e' _ A5.out 0 rfl).mono ?_; rintro r w' ⟨rfl, rfl⟩
                go_wp2_with fail
                refine (alive_any _).mono ?_; rintro r w6 ⟨rfl, hb⟩
                go_wp2_with fail
                go_ret
                exact ⟨rfl, B5.out.trans (hb.mono B5.out.size)⟩
end Go.Proofs.Ytgbbbokfdoeniaa
