/- The reference's seen: a read's candidates by its history. Own work. -/
import Derived.Test.YtdfkmkflcnfchaaRef8
namespace Go.Proofs.Ytdfkmkflcnfchaa
open Go.ChangeShapes Go.WideShapes Go.ChangeAt Go.RowKit CellM

theorem flat_le {g : Ev → List Int} (hg : ∀ e, (g e).length ≤ 1) : ∀ L : List Ev, (L.flatMap g).length ≤ L.length
  | [] => Nat.le_refl _
  | e :: L => by
    rw [List.flatMap_cons, List.length_append, List.length_cons]
    have := flat_le hg L
    have := hg e
    omega
theorem oneT_le (f t : Int) (e : Ev) : (oneT f t e).length ≤ 1 := by unfold oneT; split <;> simp
theorem later_le (f : Int) (e : Ev) : (later f e).length ≤ 1 := by unfold later; split <;> simp
theorem thr_le (L : List Ev) (f : Int) : ∀ n, (thr L f n).length ≤ n * L.length
  | 0 => by simp [thr]
  | n + 1 => by
    show (thr L f n ++ L.flatMap (oneT f n)).length ≤ _
    rw [List.length_append]
    have := thr_le L f n
    have := flat_le (oneT_le f n) L
    rw [Nat.add_mul]; omega
/-- The list so far: the first t threads, of thread t the first i accesses. -/
def part1 (L : List Ev) (w f : Int) (t i : Nat) : List Int := (w :: thr L f t) ++ (L.take i).flatMap (oneT f t)
def part2 (L : List Ev) (w f : Int) (i : Nat) : List Int := (w :: thr L f 8) ++ (L.take i).flatMap (later f)
theorem take_flat {g : Ev → List Int} {L : List Ev} {i : Nat} (hi : i < L.length) : (L.take (i + 1)).flatMap g = (L.take i).flatMap g ++ g L[i] := by
  rw [List.take_succ_eq_append_getElem hi, List.flatMap_append]
  simp
theorem part1_next {L : List Ev} {w f : Int} {t i : Nat} (hi : i < L.length) : part1 L w f t (i + 1) = part1 L w f t i ++ oneT f t L[i] := by
  unfold part1; rw [take_flat hi, List.append_assoc]
theorem part2_next {L : List Ev} {w f : Int} {i : Nat} (hi : i < L.length) : part2 L w f (i + 1) = part2 L w f i ++ later f L[i] := by
  unfold part2; rw [take_flat hi, List.append_assoc]
theorem part1_zero (L : List Ev) (w f : Int) (t : Nat) : part1 L w f t 0 = w :: thr L f t := by unfold part1; simp
theorem part1_end (L : List Ev) (w f : Int) (t : Nat) : part1 L w f t L.length = part1 L w f (t + 1) 0 := by
  rw [part1_zero]; unfold part1; rw [List.take_length]; rfl
theorem part2_zero (L : List Ev) (w f : Int) : part1 L w f 8 0 = part2 L w f 0 := by unfold part1 part2; simp
theorem part2_end (L : List Ev) (w f : Int) : part2 L w f L.length = seenL L w f := by unfold part2 seenL; rw [List.take_length]
theorem part1_le (L : List Ev) (w f : Int) (t i : Nat) (hl : L.length ≤ 100) (ht : t ≤ 8) : (part1 L w f t i).length ≤ 1000 := by
  unfold part1
  rw [List.length_append, List.length_cons]
  have h1 := thr_le L f t
  have h2 := flat_le (oneT_le f t) (L.take i)
  rw [List.length_take] at h2
  have : t * L.length ≤ 8 * 100 := Nat.mul_le_mul ht hl
  omega
theorem part2_le (L : List Ev) (w f : Int) (i : Nat) (hl : L.length ≤ 100) : (part2 L w f i).length ≤ 1000 := by
  unfold part2
  rw [List.length_append, List.length_cons]
  have h1 := thr_le L f 8
  have h2 := flat_le (later_le f) (L.take i)
  rw [List.length_take] at h2
  omega
/-- What the call has come to: the list l behind V. -/
structure Got (B : Nat) (w0 w : World) (V : Value) (l : List Int) : Prop where
  ex : ∃ g o c, B ≤ g ∧ Cand w V g o c l
  below : Below B w0 w
  size : B ≤ w.heap.size
section
variable {B : Nat} {w0 w w' : World} {V : Value} {l : List Int}
theorem Got.grow (H : Got B w0 w V l) (hne : l ≠ []) (hb : Below w.heap.size w w') : Got B w0 w' V l := by
  obtain ⟨g, o, c, hg, hc⟩ := H.ex
  exact ⟨⟨g, o, c, hg, hc.below hb (hc.lt hne)⟩, H.below.trans (hb.mono H.size), Nat.le_trans H.size hb.size⟩
theorem Got.push (H : Got B w0 w V l) {g o c : Nat} (hg : B ≤ g) {V' : Value} {x : Int} (hO : Onto1 w w' V' g o c l x) : Got B w0 w' V' (l ++ [x]) := by
  obtain ⟨h', o', c', hc, hp⟩ := hO.ex
  have hb := hO.below B hg H.size
  refine ⟨⟨h', o', c', ?_, hc⟩, H.below.trans hb, Nat.le_trans H.size hb.size⟩
  rcases hp with ⟨rfl, _⟩ | ⟨_, h1⟩
  · exact hg
  · exact Nat.le_trans H.size h1
end
theorem part1_ne (L : List Ev) (w f : Int) (t i : Nat) : part1 L w f t i ≠ [] := by unfold part1; simp
theorem part2_ne (L : List Ev) (w f : Int) (i : Nat) : part2 L w f i ≠ [] := by unfold part2; simp
/-- The five ways of a test: four that fail, two that hold. -/
theorem one_ways (f t : Int) (e : Ev) :
    (oneT f t e = [] ∧ ((e.t == t) = false ∨ ((e.t == t) = true ∧ (e.k == 2) = false) ∨ ((e.t == t) = true ∧ (e.k == 2) = true ∧ decide (e.f < f) = false) ∨ ((e.t == t) = true ∧ (e.k == 2) = true ∧ decide (e.f < f) = true ∧ decide (e.o < 0) = false ∧ decide (f < e.o) = false))) ∨
    (oneT f t e = [e.v] ∧ (((e.t == t) = true ∧ (e.k == 2) = true ∧ decide (e.f < f) = true ∧ decide (e.o < 0) = true) ∨ ((e.t == t) = true ∧ (e.k == 2) = true ∧ decide (e.f < f) = true ∧ decide (e.o < 0) = false ∧ decide (f < e.o) = true))) := by
  unfold oneT
  by_cases h1 : e.t = t <;> by_cases h2 : e.k = 2 <;> by_cases h3 : e.f < f <;> by_cases h4 : e.o < 0 <;> by_cases h5 : f < e.o <;> simp [h1, h2, h3, h4, h5]
theorem later_ways (f : Int) (e : Ev) :
    (later f e = [] ∧ ((e.k == 2) = false ∨ ((e.k == 2) = true ∧ decide (f < e.f) = false))) ∨ (later f e = [e.v] ∧ (e.k == 2) = true ∧ decide (f < e.f) = true) := by
  unfold later
  by_cases h1 : e.k = 2 <;> by_cases h2 : f < e.f <;> simp [h1, h2]
set_option maxHeartbeats 8000000 in
set_option maxRecDepth 20000 in
theorem seen_is (w : World) (rc : Nat) (r : Rs) (A : Option Addr) (h c : Nat) (G : Nat → Prop) (H : RAt w rc r A h c G) (x : Ev) (hl : r.L.length ≤ 100) :
    Calls Try.prog 36 #[.pointer (some ⟨rc, 0, none⟩), .agg #[.int .i64 x.t, .int .i64 x.k, .int .i64 x.c, .int .i64 x.v, .int .i64 x.f, .int .i64 x.o, .int .i64 x.w]] w fun e w' =>
      ∃ v', e = .returned v' ∧ Got w.heap.size w w' v' (seenL r.L x.w x.f) := by
  obtain ⟨wb, hwb⟩ : ∃ wb, wb = w.alloc (.cells #[.int .i64 x.t, .int .i64 x.k, .int .i64 x.c, .int .i64 x.v, .int .i64 x.f, .int .i64 x.o, .int .i64 x.w] 79) := ⟨_, rfl⟩
  have hsz : wb.heap.size = w.heap.size + 1 := by rw [hwb]; exact alloc_size _ _
  have hbb : Below w.heap.size w wb := by rw [hwb]; exact (Below.refl _ _).alloc (Nat.le_refl _) _
  have b4 : Has wb ⟨w.heap.size, 4, none⟩ (.int .i64 x.f) := by rw [hwb]; exact has_new _ _ _ 4 _ rfl
  have b6 : Has wb ⟨w.heap.size, 6, none⟩ (.int .i64 x.w) := by rw [hwb]; exact has_new _ _ _ 6 _ rfl
  have HH := Lib.hid (And.intro (H.below hbb) (And.intro hbb b4))
  have S0 : Hid (Got wb.heap.size wb (wb.alloc (.cells #[.int .i64 x.w] 3)) (.slice (some ⟨wb.heap.size, 0, none⟩) 1 1) (part1 r.L x.w x.f 0 0)) := by
    have e : part1 r.L x.w x.f 0 0 = [x.w] := by rw [part1_zero]; rfl
    have h0 : Has (wb.alloc (.cells #[.int .i64 x.w] 3)) ⟨wb.heap.size, 0, none⟩ (.int .i64 x.w) := has_new _ _ _ 0 _ rfl
    rw [e]
    refine Lib.hid ⟨⟨wb.heap.size, 0, 1, Nat.le_refl _, rfl, Nat.le_refl _, by decide, fun k y hy => ?_, fun k hk => ?_⟩, (Below.refl _ _).alloc (Nat.le_refl _) _, by rw [alloc_size]; omega⟩
    · cases k with
      | zero => simp at hy; subst hy; exact h0
      | succ k => simp at hy
    · obtain rfl : k = 0 := by omega
      exact ⟨_, h0⟩
  have hmax : r.L.length ≤ 1000 := by omega
  rw [hsz] at S0
  have HF : Hid (∀ (wr : World) (v : Value) (l : List Int), Got (w.heap.size + 1) wb wr v l → RAt wr rc r A h c G ∧ Has wr ⟨w.heap.size, 4, none⟩ (.int .i64 x.f)) := Lib.hid (fun wr v l hg => by
    have hb := hg.below
    rw [← hsz] at hb
    exact ⟨(H.below hbb).below hb, b4.below hb b4.lt⟩)
  have HE : Hid (∀ (wr : World) (v : Value) (l : List Int), Got (w.heap.size + 1) wb wr v l → Got w.heap.size w wr v l) := Lib.hid (fun wr v l hg => by
    obtain ⟨g, o, c, h1, h2⟩ := hg.ex
    exact ⟨⟨g, o, c, by omega, h2⟩, hbb.trans (hg.below.mono (by omega)), by have := hg.size; omega⟩)
  have HWB := Lib.hid hwb
  clear H hbb b4 b6 HH hsz hwb
  go_enter Try.func36, Try.ntmps36
  go_wp2_with fail
  go_loopw [5, 6] (fun z tt wr => ∃ t : Nat, t ≤ 8 ∧ tt = .int .i64 t ∧ Hid (Got (w.heap.size + 1) wb wr z (part1 r.L x.w x.f t 0))) (fun _ tt _ => 8 - (intOf tt).toNat)
  case atStart => exact ⟨0, by omega, rfl, by have := S0; rw [HWB.out] at this ⊢; exact this⟩
  case round =>
    obtain ⟨t, ht, rfl, HG⟩ := hrel
    clear S0
    by_cases htl : t < 8
    · have d0 : decide ((t : Int) < 8) = true := by simp; omega
      go_wp2_with fail
      go_loopw [5, 7] (fun z ii wr => ∃ i : Nat, i ≤ r.L.length ∧ ii = .int .i64 i ∧ Hid (Got (w.heap.size + 1) wb wr z (part1 r.L x.w x.f t i))) (fun _ ii _ => r.L.length - (intOf ii).toNat)
      case atStart => exact ⟨0, by omega, rfl, HG⟩
      case round =>
        obtain ⟨i, hi, rfl, HG2⟩ := hrel
        clear HG
        by_cases hil : i < r.L.length
        · have hRA := HF.out _ _ _ HG2.out
          have hbx := hRA.2.1
          have c4 := hRA.1.l.1
          obtain ⟨rfl, hf⟩ := hRA.1.row.get hil
          have x0 : wr.cell? ⟨h, i * 7, none⟩ = some (.int .i64 r.L[i].t) := (hf 0 _ rfl).1
          have x1 := (hf 1 _ rfl).1
          have x2 := (hf 2 _ rfl).1
          have x3 := (hf 3 _ rfl).1
          have x4 := (hf 4 _ rfl).1
          have x5 := (hf 5 _ rfl).1
          have x6 := (hf 6 _ rfl).1
          have hwl : w.heap.size < wr.heap.size := HG2.out.size
          clear hf hRA
          have GB := Lib.hid (HG2.out.grow (part1_ne _ _ _ _ _) ((Below.refl _ _).alloc (Nat.le_refl _) (.cells #[.int .i64 r.L[i].t, .int .i64 r.L[i].k, .int .i64 r.L[i].c, .int .i64 r.L[i].v, .int .i64 r.L[i].f, .int .i64 r.L[i].o, .int .i64 r.L[i].w] 79)))
          rcases one_ways x.f t r.L[i] with ⟨hone, hcases⟩ | ⟨hone, hcases⟩
          · have GB2 : Hid (Got (w.heap.size + 1) wb (wr.alloc (.cells #[.int .i64 r.L[i].t, .int .i64 r.L[i].k, .int .i64 r.L[i].c, .int .i64 r.L[i].v, .int .i64 r.L[i].f, .int .i64 r.L[i].o, .int .i64 r.L[i].w] 79)) _ (part1 r.L x.w x.f t (i + 1))) := Lib.hid (by rw [part1_next hil, hone, List.append_nil]; exact GB.out)
            clear GB hone
            rcases hcases with d1 | ⟨d1, d2⟩ | ⟨d1, d2, d3⟩ | ⟨d1, d2, d3, d4, d5⟩
            all_goals
              go_wp2_with fail
              go_roundw
              case rel => exact ⟨i + 1, by omega, by go_num, GB2⟩
              case measure => simp [intOf]; omega
          · obtain ⟨g, o, cc, hgB, hC⟩ := GB.out.ex
            have hlen := part1_le r.L x.w x.f t i hl ht
            have HC := Lib.hid hC; clear hC
            rcases hcases with ⟨d1, d2, d3, d4⟩ | ⟨d1, d2, d3, d4, d5⟩
            all_goals
              go_wp2_with (at_builtin; refine app_cand rfl _ _ rfl (HC.out.alloc _) rfl (by omega) (ad := ⟨wr.heap.size + 1, 0, none⟩) (m := r.L[i].v) rfl ?c1 ?_)
              case c1 => exact (has_at (cs := #[.int .i64 r.L[i].v]) (t := 3) (alloc_size _ _).symm rfl).1
              intro V' w4 hO
              have hGN := (GB.out.grow (part1_ne _ _ _ _ _) ((Below.refl _ _).alloc (Nat.le_refl _) _)).push hgB hO
              have GN : Hid (Got (w.heap.size + 1) wb w4 V' (part1 r.L x.w x.f t (i + 1))) := Lib.hid (by rw [part1_next hil, hone]; exact hGN)
              clear hGN hO
              go_wp2_with fail
              go_roundw
              case rel => exact ⟨i + 1, by omega, by go_num, GN⟩
              case measure => simp [intOf]; omega
        · obtain rfl : i = r.L.length := by omega
          have c4 := (HF.out _ _ _ HG2.out).1.l.1
          go_wp2_with fail
          go_roundw
          case rel => exact ⟨t + 1, by omega, by go_num, by rw [← part1_end]; exact HG2⟩
          case measure => simp [intOf]; omega
    · have e8 : t = 8 := by omega
      have d0 : decide ((t : Int) < 8) = false := by simp; omega
      rw [e8, part2_zero] at HG
      clear e8
      go_wp2_with fail
      go_loopw [5, 9] (fun z ii wr => ∃ i : Nat, i ≤ r.L.length ∧ ii = .int .i64 i ∧ Hid (Got (w.heap.size + 1) wb wr z (part2 r.L x.w x.f i))) (fun _ ii _ => r.L.length - (intOf ii).toNat)
      case atStart => exact ⟨0, by omega, rfl, HG⟩
      case round =>
        obtain ⟨i, hi, rfl, HG2⟩ := hrel
        clear HG
        by_cases hil : i < r.L.length
        · have hRA := HF.out _ _ _ HG2.out
          have hbx := hRA.2.1
          have c4 := hRA.1.l.1
          obtain ⟨rfl, hf⟩ := hRA.1.row.get hil
          have x0 : wr.cell? ⟨h, i * 7, none⟩ = some (.int .i64 r.L[i].t) := (hf 0 _ rfl).1
          have x1 := (hf 1 _ rfl).1
          have x2 := (hf 2 _ rfl).1
          have x3 := (hf 3 _ rfl).1
          have x4 := (hf 4 _ rfl).1
          have x5 := (hf 5 _ rfl).1
          have x6 := (hf 6 _ rfl).1
          have hwl : w.heap.size < wr.heap.size := HG2.out.size
          clear hf hRA
          have GB := Lib.hid (HG2.out.grow (part2_ne _ _ _ _) ((Below.refl _ _).alloc (Nat.le_refl _) (.cells #[.int .i64 r.L[i].t, .int .i64 r.L[i].k, .int .i64 r.L[i].c, .int .i64 r.L[i].v, .int .i64 r.L[i].f, .int .i64 r.L[i].o, .int .i64 r.L[i].w] 79)))
          rcases later_ways x.f r.L[i] with ⟨hone, hcases⟩ | ⟨hone, hcases⟩
          · have GB2 : Hid (Got (w.heap.size + 1) wb (wr.alloc (.cells #[.int .i64 r.L[i].t, .int .i64 r.L[i].k, .int .i64 r.L[i].c, .int .i64 r.L[i].v, .int .i64 r.L[i].f, .int .i64 r.L[i].o, .int .i64 r.L[i].w] 79)) _ (part2 r.L x.w x.f (i + 1))) := Lib.hid (by rw [part2_next hil, hone, List.append_nil]; exact GB.out)
            clear GB hone
            rcases hcases with d1 | ⟨d1, d2⟩
            all_goals
              go_wp2_with fail
              go_roundw
              case rel => exact ⟨i + 1, by omega, by go_num, GB2⟩
              case measure => simp [intOf]; omega
          · obtain ⟨g, o, cc, hgB, hC⟩ := GB.out.ex
            have hlen := part2_le r.L x.w x.f i hl
            have HC := Lib.hid hC; clear hC
            rcases hcases with ⟨d1, d2⟩
            all_goals
              go_wp2_with (at_builtin; refine app_cand rfl _ _ rfl (HC.out.alloc _) rfl (by omega) (ad := ⟨wr.heap.size + 1, 0, none⟩) (m := r.L[i].v) rfl ?c1 ?_)
              case c1 => exact (has_at (cs := #[.int .i64 r.L[i].v]) (t := 3) (alloc_size _ _).symm rfl).1
              intro V' w4 hO
              have hGN := (GB.out.grow (part2_ne _ _ _ _) ((Below.refl _ _).alloc (Nat.le_refl _) _)).push hgB hO
              have GN : Hid (Got (w.heap.size + 1) wb w4 V' (part2 r.L x.w x.f (i + 1))) := Lib.hid (by rw [part2_next hil, hone]; exact hGN)
              clear hGN hO
              go_wp2_with fail
              go_roundw
              case rel => exact ⟨i + 1, by omega, by go_num, GN⟩
              case measure => simp [intOf]; omega
        · obtain rfl : i = r.L.length := by omega
          have c4 := (HF.out _ _ _ HG2.out).1.l.1
          go_wp2_with fail
          go_ret
          exact ⟨_, rfl, HE.out _ _ _ (by rw [← part2_end]; exact HG2.out)⟩
end Go.Proofs.Ytdfkmkflcnfchaa
