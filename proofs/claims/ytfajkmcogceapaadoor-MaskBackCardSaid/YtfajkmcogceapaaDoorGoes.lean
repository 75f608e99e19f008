/- Whoever goes through a set: the law's each, mask.Text. Own work. -/
import Derived.Test.YtfajkmcogceapaaDoorEach
import Derived.Test.YtfajkmcogceapaaDoorBuild
namespace Go.Proofs.YtfajkmcogceapaaDoor
open Go.RowKit Go.Shelf Bits
attribute [local go_sem] Oper.semAt_some

theorem owns_of {w : World} {B : Nat} {v : Value} {k : Nat} {xs : List Value} (h : w.ownsRow B 3 1 v k xs) : ∃ A cap, v = .slice A k cap := by
  rcases h.2 with ⟨hv, h0⟩ | ⟨g, cap, cur, hv, r⟩
  · exact ⟨none, 0, by rw [hv, h0]⟩
  · exact ⟨_, cap, hv⟩
theorem owns_base {w : World} {B B' : Nat} {e : TypeId} {size : Nat} {v : Value} {k : Nat} {xs : List Value} (h : w.ownsRow B e size v k xs) (hB : B' ≤ B) : w.ownsRow B' e size v k xs := by
  refine ⟨h.1, ?_⟩
  rcases h.2 with hn | ⟨g, cap, cur, hv, hb, r⟩
  · exact .inl hn
  · exact .inr ⟨g, cap, cur, hv, by omega, r⟩
set_option maxRecDepth 100000 in
set_option maxHeartbeats 2000000 in
theorem eachL_in (n : Nat) (hn : 3 ≤ n) (s : Nat) (hs : s < 18446744073709551616) (w : World) (hT : Tab w) :
    CallsIn Fence.wide n Tryd.prog 18 #[.int .u64 s] w fun e W' => ∃ v, e = .returned v ∧ Owns W' w.heap.size v (setI s) ∧ Below w.heap.size w W' := by
  have h1 : 1 ≤ n := by omega
  have hg := tab_lt hT
  obtain ⟨i0, hi, hz0, hz1, hz2⟩ := info_parts infoInt
  refine callsIn_of_wp_marks Tryd.func18 rfl trivial ?_ rfl
  simp only [Tryd.ntmps18, List.size_toArray, List.length_cons, List.length_nil, Nat.reduceAdd, Nat.reduceSub, Array.replicate_succ, Array.replicate_zero, List.push_toArray, List.append_toArray, List.nil_append, List.cons_append]
  gi_wp2_with fail
  refine ⟨trivial, (eachF_in (n - 1) s _).mono ?_⟩
  rintro e w' ⟨rfl, rfl⟩
  gi_wp2_with fail
  have bR := Boxed.new w 27 (.slice none 0 0)
  have bO := Boxed.new (w.alloc (.cells #[.slice none 0 0] 27)) 27 (.slice none 0 0)
  have bS := Boxed.new ((w.alloc (.cells #[.slice none 0 0] 27)).alloc (.cells #[.slice none 0 0] 27)) 22 (.int .u64 s)
  simp only [World.size_alloc] at bO bS
  have hB0 : Below w.heap.size w (((w.alloc (.cells #[.slice none 0 0] 27)).alloc (.cells #[.slice none 0 0] 27)).alloc (.cells #[.int .u64 s] 22)) := (((Below.refl _ w).alloc (Nat.le_refl _) _).alloc (by simp) _).alloc (by simp; omega) _
  refine wpIn_rangeFunc_ownG rfl h1 (gf := 31) (lb := #[.pointer (some ⟨w.heap.size + 1 + 1, 0, none⟩)]) rfl trivial (enters_of Tryd.func31 (by kernel_rfl) rfl)
    (each_stops (n - 1) (by omega) (w.heap.size + 1 + 1) w.heap.size s hs _ hg (by simp) bS.cell (tab_below hT hg hB0)) belowK_t (belowK_b (by simp; omega)) (Below.refl _ _) (fun _ => rfl)
    (fun pre W => (∃ v, Boxed W (w.heap.size + 1) 27 v ∧ W.ownsRow (w.heap.size + 1) 3 1 v pre.length (pre.map encT) ∧ True) ∧ (Boxed W w.heap.size 27 (.slice none 0 0) ∧ Below w.heap.size w W))
    (fun _ _ _ => False)
    (OwnFrom.and (Own.from (holdsRow_own (w.heap.size + 1) (w.heap.size + 1) 27 3 1 (fun pre : List (Fin 64) => pre.length) (fun pre => pre.map encT) (fun _ _ => True)) _) (OwnFrom.and (Own.from (boxed_own _ _ _) _) (ownFrom_below (Nat.le_refl _) (by simp; omega))))
    (fun _ _ _ _ _ hs _ _ => hs)
    ⟨⟨_, bO.alloc _, World.ownsRow_nil _ _ _ _, trivial⟩, (bR.alloc _).alloc _, hB0⟩
    (fun x => { tmps := #[.int .u64 s, undef, .pointer (some ⟨w.heap.size, 0, none⟩), .pointer (some ⟨w.heap.size + 1, 0, none⟩), encT x, .int .u64 s, .func (.func 31) #[] #[.pointer (some ⟨w.heap.size + 1 + 1, 0, none⟩)], encT x, undef, undef, undef, undef, undef, undef, undef, undef, undef], defers := [] }) ?assign ?body ?done ?stop
  case assign =>
    intro l x W K hK
    gi_wp2
    exact hK
  case body =>
    rintro l pre x W ⟨⟨v, hv, hrow, _⟩, hR, hB⟩ hlt
    have hc := hv.cell
    obtain ⟨A, cap, rfl⟩ := owns_of hrow
    have hle : (pre.length : Int) ≤ 70 := by omega
    have hRlt := hv.lt
    gi_wp2_with (gi_at_builtin; refine wpListIn_append_own _ rfl _ _ 27 rfl (w.heap.size + 1) 3 i0 (.int .i64 0) 1 8 Tryd.underlying27 hi hz0 hz1 hz2 rfl (by decide) _ _ _ rfl (hrow.alloc _) ⟨W.heap.size, 0, none⟩ 1 1 [encT x] rfl rfl (cell_one_new _ _ _) (by simp [Value.oneCell']) (by unfold maxLen; omega) (by omega) (by simp; omega) ?_; intro v' w1 hown' hgrow _; obtain ⟨g', cap', rfl⟩ := ownsRow_succ hown'; obtain ⟨hv1, hv2, hr2, hk2, hb2⟩ := hv.appended (by decide) hrow (by omega) (Nat.le_refl _) hown' hgrow; have hc1 := hv1.cell; have hf1 := hv1.frozen)
    have hb3 := hb2.mono (show w.heap.size ≤ w.heap.size + 1 by omega)
    exact ⟨hk2.from _, hb3, ⟨_, hv2, by simpa using hr2, trivial⟩, (hb2.block _ (by omega)).trans hR, hB.trans hb3⟩
  case done =>
    rintro D ys W hD rfl ⟨⟨v, hv, hrow, _⟩, hR, hB⟩ hK
    have hc := hv.cell
    have hRc := hR.cell
    have hRf := hR.frozen
    obtain ⟨A, cap, rfl⟩ := owns_of hrow
    gi_wp2
    have hK' := (KeepsOthers.setCell W ⟨w.heap.size, 0, none⟩ (.slice A (setF s).length cap)).same D _ hK rfl
    refine ⟨by simp, .inl ⟨_, _, rfl, run_takeDeferred hK', ?_⟩⟩
    have hc5 := cell_kept (World.cell?_setCell_same' W ⟨w.heap.size, 0, none⟩ (.slice A (setF s).length cap) (by rw [hRc]; rfl)) (grownBy_putObj' _ D (.deferred none)) (fun r e => by cases e; exact ⟨_, hK', rfl⟩)
    refine ⟨.slice A (setF s).length cap, ?_, .slice A (setF s).length cap, rfl, ?_, (hB.setCell (p := ⟨w.heap.size, 0, none⟩) (Nat.le_refl _) _).trans (belowK_b (w := w) (Nat.le_refl _) _ D _ _ (by simp at hD; omega) hK' rfl rfl)⟩
    · simp [results, Tryd.f18, go_sem, hc5]
    · unfold Owns
      rw [← setF_lenI, ← setF_enc]
      have h2 := hrow.kept (grownBy_setCell' W w.heap.size (.slice A (setF s).length cap)) (.inr (hR.not_row (by decide) hrow).symm)
      exact owns_base (ownsRow_putObj h2 (.deferred none) hK' rfl) (by omega)
  case stop =>
    rintro D c pre W _ _ h _
    exact h.elim

/-! mask.Text -/
def T (pre : List (Fin 64)) : List UInt8 := joinT (pre.map fun x => ((x.val : Nat) : Int))
theorem itoa_nat (k : Nat) : Lib.itoa (k : Int) = Lib.decDigits k := by unfold Lib.itoa; rw [if_neg (by omega)]; rfl
theorem T_snoc (pre : List (Fin 64)) (x : Fin 64) : T (pre ++ [x]) = if pre = [] then Lib.decDigits x.val else T pre ++ 43 :: Lib.decDigits x.val := by
  unfold T
  rw [List.map_append, List.map_singleton, joinT_snoc, itoa_nat]
  simp
theorem T_nil : T [] = [] := rfl
theorem itoa_pos (k : Nat) : 0 < (Lib.decDigits k).length := by
  rw [Lib.decDigits]; split <;> simp
theorem T_pos {pre : List (Fin 64)} (h : pre ≠ []) : 0 < (T pre).length := by
  cases pre with
  | nil => exact absurd rfl h
  | cons a r =>
    unfold T joinT
    simp only [List.map_cons, List.length_append]
    have := itoa_pos a.val
    rw [itoa_nat]; omega
theorem T_len (pre : List (Fin 64)) : (T pre).length ≤ 3 * pre.length := by
  unfold T
  have := joinT_len (pre.map fun x => ((x.val : Nat) : Int)) (fun x hx => by
    rw [List.mem_map] at hx
    obtain ⟨y, _, rfl⟩ := hx
    omega)
  rwa [List.length_map] at this
theorem T_set (s : Nat) : T (setF s) = joinT (setI s) := by
  unfold T
  rw [setI_eq, ← setF_val, List.map_map]; rfl
theorem dec_len (x : Fin 64) : (Lib.decDigits x.val).length ≤ 2 := by
  have := itoa_len2 (x := (x.val : Int)) (by omega) (by omega)
  rwa [itoa_nat] at this

theorem builder_kept {w w' : World} {B b : Nat} {bs : List Value} (h : Lib.IsBuilderF 41 5 B b bs w) {row : Option Nat} (hg : w.grownBy w' row) (hr : ∀ r, row = some r → ∃ o : Obj, w.heap[r]? = some o ∧ o.isCells = false) :
    Lib.IsBuilderF 41 5 B b bs w' := by
  have key : ∀ p, Lib.BuilderAtF 41 5 B b p bs w → Lib.BuilderAtF 41 5 B b p bs w' := by
    rintro p ⟨hB, v, hb, hown, hne⟩
    refine ⟨hB, v, (hg.block b (lt_of_at hb) fun e => ?_).trans hb, hown.kept hg ?_, hne⟩
    · obtain ⟨o, ho, hc⟩ := hr b e.symm
      rw [hb] at ho; cases ho; cases hc
    · rcases hown.2 with ⟨rfl, _⟩ | ⟨g, cap, cur, fz, rfl, _, hgb, _⟩
      · exact .inl rfl
      · refine .inr fun e => ?_
        obtain ⟨o, ho, hc⟩ := hr g (by simpa [Value.ownBlock] using e.symm)
        rw [hgb] at ho; cases ho; cases hc
  exact h.imp (key _) (key _)
theorem builder_own (B b : Nat) (f : List (Fin 64) → List Value) : Own (fun s W => Lib.IsBuilderF 41 5 B b (f s) W) := fun _ _ _ _ hs hg hr => builder_kept hs hg hr
theorem keeps_of_others {B b : Nat} {bs : List Value} {w w' : World} (h : Lib.IsBuilderF 41 5 B b bs w) (hk : Lib.OthersKept 5 (some b) w w') (hb : Below B w w') : KeepsOthers w w' := by
  refine ⟨hb.size, fun k o ho hc => hk k o ho ?_ ?_⟩
  · rintro e
    cases e
    rcases h with ⟨_, v, hbk, _⟩ | ⟨_, v, hbk, _⟩
    · rw [hbk] at ho; cases ho; cases hc
    · rw [hbk] at ho; cases ho; cases hc
  · rintro c fz rfl; cases hc
/-- The methods, inside a round. -/
theorem writeByte_at (B b : Nat) (l : List UInt8) (c : UInt8) (hl : l.length ≤ 1000) (w : World) (h : Lib.IsBuilderF 41 5 B b (Lib.byteCells l) w) (hBw : B ≤ w.heap.size) (z : Int) (hz : z = (c.toNat : Int)) :
    Calls Tryd.prog 26 #[.pointer (some ⟨b, 0, none⟩), .int .u8 z] w fun e w' => e = .returned .nilIface ∧ Lib.IsBuilderF 41 5 B b (Lib.byteCells (l ++ [c])) w' ∧ Below B w w' ∧ KeepsOthers w w' := by
  subst hz
  refine (writeByte_k B b _ _ w h (by rw [Lib.byteCells_length]; omega) hBw).mono ?_
  rintro e w' ⟨rfl, h1, hb, hk⟩
  exact ⟨rfl, .inr (by rw [Lib.byteCells_append]; exact h1), hb, keeps_of_others h hk hb⟩
theorem writeString_at (B b : Nat) (l m : List UInt8) (hl : l.length ≤ 1000) (hm : m.length ≤ 1000) (w : World) (h : Lib.IsBuilderF 41 5 B b (Lib.byteCells l) w) (hBw : B ≤ w.heap.size) :
    Calls Tryd.prog 27 #[.pointer (some ⟨b, 0, none⟩), .string ⟨m.toArray⟩] w fun e w' => (∃ v, e = .returned v) ∧ Lib.IsBuilderF 41 5 B b (Lib.byteCells (l ++ m)) w' ∧ Below B w w' ∧ KeepsOthers w w' := by
  refine (writeString_k B b _ _ w h (by rw [Lib.byteCells_length, str_size]; omega) hBw).mono ?_
  rintro e w' ⟨rfl, h1, hb, hk⟩
  rw [show Lib.strCells ⟨m.toArray⟩ = Lib.byteCells m from rfl, ← Lib.byteCells_append] at h1
  exact ⟨⟨_, rfl⟩, .inr h1, hb, keeps_of_others h hk hb⟩

set_option maxRecDepth 100000 in
set_option maxHeartbeats 2000000 in
theorem text_in (n : Nat) (hn : 4 ≤ n) (s : Nat) (hs : s < 18446744073709551616) (hs0 : s ≠ 0) (w : World) (hT : Tab w) :
    CallsIn Fence.wide n Tryd.prog 19 #[.int .u64 s] w fun e W' => e = .returned (.string ⟨(T (setF s)).toArray⟩) ∧ Below w.heap.size w W' := by
  have h1 : 1 ≤ n := by omega
  have hg := tab_lt hT
  have hne : ((s : Int) == 0) = false := by simp; omega
  have S0 := Lib.hid hs0; clear hs0
  refine callsIn_of_wp_marks Tryd.func19 rfl trivial ?_ rfl
  simp only [Tryd.ntmps19, List.size_toArray, List.length_cons, List.length_nil, Nat.reduceAdd, Nat.reduceSub, Array.replicate_succ, Array.replicate_zero, List.push_toArray, List.append_toArray, List.nil_append, List.cons_append]
  gi_wp2_with fail
  refine ⟨trivial, (eachF_in (n - 1) s _).mono ?_⟩
  rintro e w' ⟨rfl, rfl⟩
  gi_wp2_with fail
  have bB : Lib.IsBuilderF 41 5 w.heap.size w.heap.size (Lib.byteCells []) ((w.alloc (.cells #[.pointer none, .slice none 0 0] 41)).alloc (.cells #[.int .u64 s] 22)) := (Lib.IsBuilderF.of (Lib.fresh_isBuilder _ _ w)).alloc _
  have bS := Boxed.new (w.alloc (.cells #[.pointer none, .slice none 0 0] 41)) 22 (.int .u64 s)
  simp only [World.size_alloc] at bS
  have hB0 : Below w.heap.size w ((w.alloc (.cells #[.pointer none, .slice none 0 0] 41)).alloc (.cells #[.int .u64 s] 22)) := ((Below.refl _ w).alloc (Nat.le_refl _) _).alloc (by simp) _
  refine wpIn_rangeFunc_ownG rfl h1 (gf := 31) (lb := #[.pointer (some ⟨w.heap.size + 1, 0, none⟩)]) rfl trivial (enters_of Tryd.func31 (by kernel_rfl) rfl)
    (each_stops (n - 1) (by omega) (w.heap.size + 1) w.heap.size s hs _ hg (by simp) bS.cell (tab_below hT hg hB0)) belowK_t (belowK_b (by simp; omega)) (Below.refl _ _) (fun _ => rfl)
    (fun pre W => Lib.IsBuilderF 41 5 w.heap.size w.heap.size (Lib.byteCells (T pre)) W ∧ Below w.heap.size w W)
    (fun _ _ _ => False)
    (OwnFrom.and (Own.from (builder_own w.heap.size w.heap.size (fun pre => Lib.byteCells (T pre))) _) (ownFrom_below (Nat.le_refl _) (by simp; omega)))
    (fun _ _ _ _ _ hs _ _ => hs)
    ⟨bB, hB0⟩
    (fun x => { tmps := #[.int .u64 s, undef, .string ⟨#[]⟩, .pointer (some ⟨w.heap.size, 0, none⟩), encT x, .int .u64 s, .bool false, .int .u64 s, .func (.func 31) #[] #[.pointer (some ⟨w.heap.size + 1, 0, none⟩)], encT x, undef, undef, undef, undef, undef, undef, undef], defers := [] }) ?assign ?body ?done ?stop
  case assign =>
    intro l x W K hK
    gi_wp2
    exact hK
  case body =>
    rintro l pre x W ⟨hb, hB⟩ hlt
    have hTl := T_len pre
    have hd := dec_len x
    have hd4 : 1 ≤ n - 1 - 1 := by omega
    have hsz := hB.size
    by_cases hp : pre = []
    · subst hp
      have hT0 : (T ([] ++ [x])) = Lib.decDigits x.val := by rw [T_snoc, if_pos rfl]
      have H := Lib.hid hT0; clear hT0
      gi_wp2_with fail
      refine ⟨trivial, CallsIn.inRound l ((callsIn_wide.2 (Tryd.Builder_Len_f _ _ _ _ hb)).mono ?_)⟩
      rintro e w' ⟨rfl, rfl⟩
      rw [Lib.byteCells_length, T_nil]
      gi_wp2_with fail
      refine ⟨trivial, CallsIn.inRound l ((callsIn_wide.2 (Tryd.strconv_Itoa_small x.val (by omega) _)).mono ?_)⟩
      rintro e w' ⟨rfl, rfl⟩
      gi_wp2_with fail
      refine ⟨trivial, CallsIn.inRound l ((callsIn_wide.2 (writeString_at _ _ _ _ (by omega) (by omega) _ hb hsz)).mono ?_)⟩
      rintro e w' ⟨⟨v, rfl⟩, h2, hb2, hk2⟩
      gi_wp2_with fail
      exact ⟨hk2.from _, hb2, by rw [H.out]; exact h2, hB.trans hb2⟩
    · have hT0 : (T (pre ++ [x])) = T pre ++ 43 :: Lib.decDigits x.val := by rw [T_snoc, if_neg hp]
      have hpos := T_pos hp
      have H := Lib.hid hT0; clear hT0 hp
      gi_wp2_with fail
      refine ⟨trivial, CallsIn.inRound l ((callsIn_wide.2 (Tryd.Builder_Len_f _ _ _ _ hb)).mono ?_)⟩
      rintro e w' ⟨rfl, rfl⟩
      rw [Lib.byteCells_length]
      gi_wp2_with fail
      refine ⟨trivial, CallsIn.inRound l ((callsIn_wide.2 (writeByte_at _ _ _ 43 (by omega) _ hb hsz _ rfl)).mono ?_)⟩
      rintro e w' ⟨rfl, h2, hb2, hk2⟩
      have hsz2 := Nat.le_trans hsz hb2.size
      gi_wp2_with fail
      refine ⟨trivial, CallsIn.inRound l ((callsIn_wide.2 (Tryd.strconv_Itoa_small x.val (by omega) _)).mono ?_)⟩
      rintro e w' ⟨rfl, rfl⟩
      gi_wp2_with fail
      refine ⟨trivial, CallsIn.inRound l ((callsIn_wide.2 (writeString_at _ _ _ _ (by simp; omega) (by omega) _ h2 hsz2)).mono ?_)⟩
      rintro e w' ⟨⟨v, rfl⟩, h3, hb3, hk3⟩
      gi_wp2_with fail
      have hb4 := hb2.trans hb3
      exact ⟨(hk2.trans hk3).from _, hb4, by rw [H.out]; simpa using h3, hB.trans hb4⟩
  case done =>
    rintro D ys W hD rfl ⟨hb, hB⟩ hK
    gi_wp2_with fail
    refine ⟨trivial, (callsIn_wide.2 (Tryd.Builder_String_any_k _ _ _ _ hb hB.size)).mono ?_⟩
    rintro e W2 ⟨rfl, h2, hb2, hk2⟩
    gi_wp2_with fail
    have hK2 := (keeps_of_others hb hk2 hb2).same D _ hK rfl
    refine ⟨by simp, .inl ⟨_, _, rfl, run_takeDeferred hK2, ?_⟩⟩
    exact ⟨_, results_tmp rfl _ _ _, rfl, (hB.trans hb2).trans (belowK_b (w := w) (Nat.le_refl _) W2 D _ _ (by simp at hD; omega) hK2 rfl rfl)⟩
  case stop =>
    rintro D c pre W _ _ h _
    exact h.elim
end Go.Proofs.YtfajkmcogceapaaDoor
