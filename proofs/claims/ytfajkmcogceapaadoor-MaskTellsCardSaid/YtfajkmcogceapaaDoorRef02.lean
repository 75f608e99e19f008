/- Contracts of the reference of mask: lists and texts. Own work. -/
import Derived.Test.YtfajkmcogceapaaDoorDigR
import Derived.Laws.AppendOwn
import Derived.Laws.OwnMore
namespace Go.Proofs.YtfajkmcogceapaaDoor
open Go.ChangeShapes Go.WideShapes Go.ChangeAt Go.RowKit Bits

theorem infoInt : (Tryd.prog.info? 3).map (fun i => (i.zero, i.size, i.bytes)) = some (some (.int .i64 0), 1, 8) := by kernel_rfl

/-- A row of the call's own, that reads as threads. -/
def Owns (w : World) (B : Nat) (v : Value) (l : List Int) : Prop := w.ownsRow B 3 1 v l.length (l.map (Value.int .i64))
theorem cell_lt {w : World} {p : Addr} {x : Value} (h : w.cell? p = some x) : p.block < w.heap.size := by
  rcases Nat.lt_or_ge p.block w.heap.size with h' | h'
  · exact h'
  · exfalso
    unfold World.cell? at h
    rw [Array.getElem?_eq_none h'] at h
    cases h
theorem Reads.below {w w' : World} {A : Option Addr} {l : List Int} (h : Reads w A l) (hb : Below w.heap.size w w') : Reads w' A l :=
  h.keep fun _ _ hc => (hb.cell (cell_lt hc)).trans hc
theorem Owns.reads {w : World} {B : Nat} {v : Value} {l : List Int} (h : Owns w B v l) : ∃ A cap, v = .slice A l.length cap ∧ Reads w A l := by
  unfold Owns at h
  rcases h.2 with ⟨hv, h0⟩ | ⟨g, cap, cur, hv, r⟩
  · exact ⟨none, 0, by rw [hv, h0], fun k hk => absurd hk (by omega)⟩
  · refine ⟨some ⟨g, 0, none⟩, cap, hv, fun k hk => ⟨_, rfl, ?_⟩⟩
    exact h.cells (g := g) (by rw [hv]; rfl) k _ (by simp [hk])
/-- The set's threads below k. -/
def upto (s k : Nat) : List Int := ((List.range k).filter s.testBit).map fun (t : Nat) => (t : Int)
def setI (s : Nat) : List Int := upto s 64
theorem setI_eq (s : Nat) : setI s = (setL s).map fun (t : Nat) => (t : Int) := rfl
theorem upto_hit {s k : Nat} (h : s.testBit k = true) : upto s (k + 1) = upto s k ++ [(k : Int)] := by unfold upto; rw [List.range_succ, List.filter_append]; simp [h]
theorem upto_miss {s k : Nat} (h : s.testBit k = false) : upto s (k + 1) = upto s k := by unfold upto; rw [List.range_succ, List.filter_append]; simp [h]
theorem upto_len (s k : Nat) : (upto s k).length ≤ k := by unfold upto; have := List.length_filter_le s.testBit (List.range k); simpa using this
theorem has_test {s k : Nat} (h : k < 64) : hasN s (k : Int) = s.testBit k := by unfold hasN; rw [decide_eq_true (by omega)]; rfl
set_option maxHeartbeats 800000 in
theorem listR_any (s : Nat) (hs : s < 18446744073709551616) (w : World) :
    Calls Tryd.prog 14 #[.int .u64 s] w fun e w' => ∃ v, e = .returned v ∧ Owns w' w.heap.size v (setI s) ∧ Below w.heap.size w w' := by
  obtain ⟨i0, hi, hz0, hz1, hz2⟩ := info_parts infoInt
  go_enter Tryd.func14, Tryd.ntmps14
  go_wp2_with fail
  go_loopw [3, 4] (fun v i wr => ∃ k : Nat, k ≤ 64 ∧ i = .int .i64 k ∧ Owns wr w.heap.size v (upto s k) ∧ Below w.heap.size w wr) (fun _ i _ => 64 - (intOf i).toNat)
  case atStart => exact ⟨0, by omega, rfl, World.ownsRow_nil _ _ _ _, Below.refl _ _⟩
  case round =>
    obtain ⟨k, hk, rfl, hown, hB⟩ := hrel
    by_cases hlt : k < 64
    · have hlt' : (k : Int) < 64 := by omega
      cases hb : s.testBit k
      · have hh := has_test (s := s) hlt
        rw [hb] at hh
        rw [← upto_miss hb] at hown
        have Hh := Lib.hid hh; clear hh hb
        go_wp2_with fail
        refine (hasR_is s hs k false Hh.out _).mono ?_; rintro e w' ⟨rfl, rfl⟩
        go_wp2_with fail
        go_roundw
        case rel => exact ⟨k + 1, by omega, by go_num, hown, hB⟩
        case measure => simp [intOf]; omega
      · have hh := has_test (s := s) hlt
        rw [hb] at hh
        have hl := upto_len s k
        have Hh := Lib.hid hh; clear hh
        have Hb := Lib.hid hb; clear hb
        unfold Owns at hown
        go_wp2_with fail
        refine (hasR_is s hs k true Hh.out _).mono ?_; rintro e w' ⟨rfl, rfl⟩
        go_wp2_with (at_builtin; refine wpList_append_own _ rfl _ _ 27 rfl w.heap.size 3 i0 (.int .i64 0) 1 8 Tryd.underlying27 hi hz0 hz1 hz2 rfl (by decide) _ _ _ rfl (hown.alloc _) ⟨wr.heap.size, 0, none⟩ 1 1 [.int .i64 k] rfl rfl ?c1 ?c2 ?c3 ?c4 ?c5 ?_)
        case c1 =>
          intro j u hj
          match j, hj with
          | 0, hj => simp at hj; subst hj; simp [Addr.add]
        case c2 => intro u hu; simp at hu; subst hu; rfl
        case c3 => unfold maxLen; omega
        case c4 => omega
        case c5 => have := hB.size; simp; omega
        intro v' w1 hown' hgrow _
        have h1 : Owns w1 w.heap.size v' (upto s (k + 1)) := by rw [upto_hit Hb.out]; unfold Owns; simpa using hown'
        have h2 : Below w.heap.size w w1 := (hB.alloc hB.size _).grown hgrow (by have := hB.size; simp; omega) (fun j hj => (hown.lt j hj).1)
        clear hown' hgrow
        go_wp2
        go_roundw
        case rel => exact ⟨k + 1, by omega, by go_num, h1, h2⟩
        case measure => simp [intOf]; omega
    · obtain rfl : k = 64 := by omega
      go_wp2_with fail
      go_ret
      exact ⟨_, rfl, hown, hB⟩

theorem setI_len (s : Nat) : (setI s).length ≤ 64 := upto_len s 64
theorem ne_false (a : Int) : (a != a) = false := by simp
set_option maxHeartbeats 800000 in
theorem ints_any (A A' : Option Addr) (c c' : Nat) (l : List Int) (hl : l.length ≤ 64) (w : World) (hr : Reads w A l) (hr' : Reads w A' l) :
    Calls Tryd.prog 17 #[.slice A l.length c, .slice A' l.length c'] w fun e w' => e = .returned (.bool true) ∧ ∃ n, w' = w.drewN n := by
  have R := Lib.hid hr; clear hr
  have R' := Lib.hid hr'; clear hr'
  go_enter Tryd.func17, Tryd.ntmps17
  go_wp2_with fail
  go_loopw [5] (fun i wr => ∃ k n : Nat, k ≤ l.length ∧ i = .int .i64 k ∧ wr = w.drewN n) (fun i _ => l.length - (intOf i).toNat)
  case atStart => exact ⟨0, 0, by omega, rfl, rfl⟩
  case round =>
    obtain ⟨k, n, hk, rfl, rfl⟩ := hrel
    by_cases hlt : k < l.length
    · obtain ⟨ad, rfl, hc⟩ := R.out k hlt
      obtain ⟨ad', rfl, hc'⟩ := R'.out k hlt
      have hne := ne_false l[k]
      go_wp2_with fail
      go_quiet (fail)
      go_wp2_with fail
      go_roundw
      case rel => exact ⟨k + 1, _, by omega, by go_num, rfl⟩
      case measure => simp [intOf]; omega
    · obtain rfl : k = l.length := by omega
      go_wp2_with fail
      go_ret
      exact ⟨rfl, _, rfl⟩

/-! texts -/
/-- The threads' numerals, with a sign between any two. -/
def joinT : List Int → List UInt8
  | [] => []
  | a :: r => Lib.itoa a ++ r.flatMap fun t => 43 :: Lib.itoa t
theorem joinT_snoc (l : List Int) (x : Int) : joinT (l ++ [x]) = if l = [] then Lib.itoa x else joinT l ++ 43 :: Lib.itoa x := by
  cases l with
  | nil => simp [joinT]
  | cons a r => simp [joinT]
/-- A set's text. -/
def textT (s : Nat) : List UInt8 := if setI s = [] then [45] else joinT (setI s)
theorem mem_setI {s : Nat} {x : Int} (h : x ∈ setI s) : 0 ≤ x ∧ x < 64 := by
  rw [setI_eq, List.mem_map] at h
  obtain ⟨t, ht, rfl⟩ := h
  have := ((mem_setL s t).1 ht).1
  omega
theorem itoa_len2 {x : Int} (h0 : 0 ≤ x) (h1 : x < 64) : (Lib.itoa x).length ≤ 2 := by
  obtain ⟨k, rfl⟩ : ∃ k : Nat, x = k := ⟨x.toNat, by omega⟩
  unfold Lib.itoa
  rw [if_neg (by omega)]
  by_cases h : k < 10
  · rw [show (k : Int).toNat = k from rfl, Lib.decDigits_one h]; simp
  · rw [show (k : Int).toNat = k from rfl, Lib.decDigits_two h (by omega)]; simp
theorem joinT_len : ∀ l : List Int, (∀ x ∈ l, 0 ≤ x ∧ x < 64) → (joinT l).length ≤ 3 * l.length
  | [], _ => by simp [joinT]
  | a :: r, h => by
    have ha := h a (by simp)
    have := itoa_len2 ha.1 ha.2
    have hr : ∀ r : List Int, (∀ x ∈ r, 0 ≤ x ∧ x < 64) → (r.flatMap fun t => 43 :: Lib.itoa t).length ≤ 3 * r.length := by
      intro r
      induction r with
      | nil => intro _; simp
      | cons b q ih =>
        intro hh
        have hb := hh b (by simp)
        have h2 := itoa_len2 hb.1 hb.2
        have := ih fun x hx => hh x (by simp [hx])
        simp only [List.flatMap_cons, List.length_append, List.length_cons] at *; omega
    have := hr r fun x hx => h x (by simp [hx])
    simp only [joinT, List.length_append, List.length_cons] at *; omega
theorem digR_at {l : List Int} (hl : ∀ x ∈ l, 0 ≤ x ∧ x < 64) {k : Nat} (hk : k < l.length) (w : World) : Calls Tryd.prog 30 #[.int .i64 l[k]] w fun e w' => e = .returned (.string ⟨(Lib.itoa l[k]).toArray⟩) ∧ w = w' := by
  have := hl l[k] (List.getElem_mem _)
  exact (digitsR_any _ (by omega) (by omega) w).mono fun _ _ h => ⟨h.1, h.2.symm⟩
theorem str_app (a b : List UInt8) : (⟨a.toArray⟩ : ByteArray) ++ ⟨b.toArray⟩ = ⟨(a ++ b).toArray⟩ := by ext1; simp
theorem str_size (a : List UInt8) : (⟨a.toArray⟩ : ByteArray).size = a.length := by simp [ByteArray.size]
theorem joinT_take (l : List Int) {k : Nat} (hk : k < l.length) : joinT (l.take (k + 1)) = if k = 0 then Lib.itoa l[k] else joinT (l.take k) ++ 43 :: Lib.itoa l[k] := by
  rw [List.take_succ_eq_append_getElem hk, joinT_snoc]
  by_cases h : k = 0
  · subst h; rw [if_pos (by simp), if_pos rfl]
  · rw [if_neg (by intro e; have := congrArg List.length e; rw [List.length_take, List.length_nil] at this; omega), if_neg h]
set_option maxHeartbeats 800000 in
theorem textR_any (s : Nat) (hs : s < 18446744073709551616) (w : World) :
    Calls Tryd.prog 20 #[.int .u64 s] w fun e w' => e = .returned (.string ⟨(textT s).toArray⟩) ∧ Below w.heap.size w w' := by
  obtain ⟨l, hl⟩ : ∃ l, l = setI s := ⟨_, rfl⟩
  have hm : ∀ x ∈ l, 0 ≤ x ∧ x < 64 := fun x hx => mem_setI (hl ▸ hx)
  have h64 : l.length ≤ 64 := hl ▸ setI_len s
  have hT : textT s = if l = [] then [45] else joinT l := by unfold textT; rw [hl]
  have hlist := listR_any s hs w
  rw [← hl] at hlist
  have HT := Lib.hid hT; clear hT
  have HL := Lib.hid hlist; clear hlist hl
  have HM := Lib.hid hm; clear hm
  go_enter Tryd.func20, Tryd.ntmps20
  go_wp2_with fail
  refine HL.out.mono ?_; rintro e w1 ⟨v, rfl, hown, hB⟩
  obtain ⟨A, cap, rfl, hr⟩ := hown.reads
  have R := Lib.hid hr; clear hr hown HL
  go_wp2_with fail
  go_loop [4, 5] (fun t i => ∃ k : Nat, k ≤ l.length ∧ i = .int .i64 k ∧ t = .string ⟨(joinT (l.take k)).toArray⟩) (fun _ i => l.length - (intOf i).toNat)
  case atStart => exact ⟨0, by omega, rfl, rfl⟩
  case round =>
    obtain ⟨k, hk, rfl, rfl⟩ := hrel
    by_cases hlt : k < l.length
    · obtain ⟨ad, rfl, hc⟩ := R.out k hlt
      have hj := joinT_take l hlt
      have hI := itoa_len2 (HM.out l[k] (List.getElem_mem _)).1 (HM.out l[k] (List.getElem_mem _)).2
      have hL : (joinT (l.take k)).length ≤ 192 := by
        have := joinT_len (l.take k) fun x hx => HM.out x (List.mem_of_mem_take hx)
        rw [List.length_take] at this; omega
      by_cases h0 : k = 0
      · subst h0
        rw [if_pos rfl] at hj
        have J := Lib.hid hj; clear hj
        have hc0 : w1.cell? ad = some (.int .i64 l[0]) := by simpa [Addr.add] using hc
        clear hc
        have hL0 : (joinT []).length ≤ 192 := by decide
        go_wp2_with fail
        refine (digR_at HM.out hlt _).mono ?_; rintro e w' ⟨rfl, rfl⟩
        go_wp2_with fail
        go_round
        case rel => exact ⟨1, by omega, rfl, by rw [J.out, str_app]; rfl⟩
        case measure => simp [intOf]; omega
      · rw [if_neg h0] at hj
        have J := Lib.hid hj; clear hj
        have h1 : 0 < k := by omega
        go_wp2_with fail
        refine (digR_at HM.out hlt _).mono ?_; rintro e w' ⟨rfl, rfl⟩
        go_wp2_with fail
        go_round
        case rel => exact ⟨k + 1, by omega, by go_num, by rw [J.out, show (⟨#[43]⟩ : ByteArray) = ⟨([43] : List UInt8).toArray⟩ from rfl, str_app, str_app]; simp⟩
        case measure => simp [intOf]; omega
    · obtain rfl : k = l.length := by omega
      by_cases hl0 : l = []
      · subst hl0
        go_wp2_with fail
        go_ret
        exact ⟨ret_str (by rw [HT.out]; simp), hB⟩
      · have hpos : 0 < l.length := List.length_pos_iff.2 hl0
        have hne : ((l.length : Int) == 0) = false := by simp; exact hl0
        have H0 := Lib.hid hl0; clear hl0
        go_wp2_with fail
        go_ret
        exact ⟨ret_str (by rw [HT.out, if_neg H0.out]), hB⟩
end Go.Proofs.YtfajkmcogceapaaDoor
