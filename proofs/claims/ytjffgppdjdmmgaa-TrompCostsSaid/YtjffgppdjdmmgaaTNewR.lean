/- The reference's New, Tame. Own work. -/
import Derived.Test.YtjffgppdjdmmgaaTRef
import Derived.Test.YtjffgppdjdmmgaaClone
import Derived.Test.YtjffgppdjdmmgaaRWrap
import Derived.Test.YtjffgppdjdmmgaaTPlay
namespace Go.Proofs.Ytjffgppdjdmmgaa
open Go.ChangeShapes Go.WideShapes Go.ChangeAt Go.RowKit CellM TapeM

section
variable {w : World} {AA : Option Addr} {ac : Nat} {ans l : List Int}
theorem newR_of {w w2 : World} {v : Value} (hr : RI w AA ac ans) (hb : Below w.heap.size w w2) (ho : OwnI w2 w.heap.size v l) :
    RT (w2.alloc (.cells #[.slice AA ans.length ac, .int .i64 0, .bool false, .slice none 0 0, .slice none 0 0, v] 40)) w2.heap.size false AA ac ans ⟨[], [], l⟩ (fun b => w.heap.size ≤ b ∧ b < w2.heap.size + 1) := by
  obtain ⟨A, h, c, hv, hrow, hB⟩ := RowK.ofOwn ho
  have hs := hb.size
  have hN : ∀ i x, (#[.slice AA ans.length ac, .int .i64 0, .bool false, .slice none 0 0, .slice none 0 0, v] : Array Value)[i]? = some x → Has (w2.alloc (.cells #[.slice AA ans.length ac, .int .i64 0, .bool false, .slice none 0 0, .slice none 0 0, v] 40)) ⟨w2.heap.size, i, none⟩ x := fun i x hx => has_new w2 _ _ i x hx
  refine ⟨0, fun _ => rfl, fun i => if i = 2 then A else none, fun i => if i = 2 then h else 0, fun i => if i = 2 then c else 0, fun i hi => ?_, (hr.below hb).below (below_alloc _ _), fun ad e hn hf => ?_, ⟨fun i hi => ?_, fun i hi => ?_, ⟨hs, Nat.lt_succ_self _⟩, fun i hi hc => ?_, fun i hi hc => ?_, fun i j hi hj hij hci hcj => ?_⟩⟩
  · match i, hi with
    | 0, _ => exact hN 0 _ rfl
    | 1, _ => exact hN 1 _ rfl
    | 2, _ => exact hN 2 _ rfl
  · obtain ⟨ad', e', hlt⟩ := ri_block hr hn
    rw [e] at e'
    cases e'
    have := hf.1; omega
  · match i, hi with
    | 0, _ => exact hN 3 _ rfl
    | 1, _ => exact hN 4 _ rfl
    | 2, _ =>
      have := hN 5 _ rfl
      rw [hv] at this ⊢
      exact this
  · match i, hi with
    | 0, _ => exact RowK.nil _ _ _
    | 1, _ => exact RowK.nil _ _ _
    | 2, _ => exact hrow.below (below_alloc _ _)
  · by_cases e : i = 2
    · subst e
      simp only [if_true] at hc ⊢
      have := hrow.lt (by decide) hc
      exact ⟨hB hc, by omega⟩
    · simp only [if_neg e] at hc; exact absurd rfl hc
  · by_cases e : i = 2
    · subst e
      simp only [if_true] at hc ⊢
      have := hrow.lt (by decide) hc
      omega
    · simp only [if_neg e] at hc; exact absurd rfl hc
  · by_cases e : i = 2
    · by_cases e' : j = 2
      · exact absurd (e.trans e'.symm) hij
      · simp only [if_neg e'] at hcj; exact absurd rfl hcj
    · simp only [if_neg e] at hci; exact absurd rfl hci
theorem newR_is (Al : Option Addr) (cl n m : Nat) (hn : l.length = n) (hm : ans.length = m) (h1000 : n ≤ 1000) (hl : RI w Al cl l) (hr : RI w AA ac ans) :
    Calls Try.prog 11 #[.slice Al n cl, .slice AA m ac] w fun e w' => ∃ mb, e = .returned (.pointer (some ⟨mb, 0, none⟩)) ∧ RT w' mb false AA ac ans ⟨[], [], l⟩ (fun b => w.heap.size ≤ b ∧ b < w'.heap.size) ∧ Below w.heap.size w w' := by
  subst hn; subst hm
  have HR := Lib.hid (And.intro hl hr)
  clear hl hr
  have hd : ¬ (32768 : Int) < (l.length : Int) := by omega
  have hO : OwnI (w.alloc (.cells #[] 3)) w.heap.size (.slice (some ⟨w.heap.size, 0, none⟩) 0 0) [] := by
    unfold OwnI
    exact World.ownsRow_lit (e := 3) (size := 1) w #[] 0 (Nat.le_refl _) (by decide) (by simp)
  go_enter Try.func11, Try.ntmps11
  go_wp2_with (at_builtin; refine app_ints rfl _ _ rfl w.heap.size _ [] rfl hO Al l.length cl l rfl (HR.out.1.alloc _) rfl ?c1 ?c2 ?_)
  case c1 => omega
  intro v' w1 hown' hB1
  have h2 : Below w.heap.size w w1 := ((Below.refl w.heap.size w).alloc (Nat.le_refl _) _).trans hB1
  have h3 : OwnI w1 w.heap.size v' l := hown'
  have HT := Lib.hid (newR_of HR.out.2 h2 h3)
  have HB := Lib.hid (h2.trans ((below_alloc w1 (.cells #[.slice AA ans.length ac, .int .i64 0, .bool false, .slice none 0 0, .slice none 0 0, v'] 40)).mono h2.size))
  obtain ⟨A', h', c', rfl, _, _⟩ := RowK.ofOwn h3
  clear hB1 hown' h2 h3 hO
  go_wp2_with fail
  go_ret
  refine ⟨_, rfl, ?_, HB.out⟩
  have := HT.out
  rw [size_alloc']
  exact this
/-- Tame -/
theorem tameT_is (T : Int) (w : World) (A : Option Addr) (c n : Nat) (l : List Int) (hn : l.length = n) (h1000 : n ≤ 1000) (hr : RI w A c l) :
    Calls Try.prog 6 #[.slice A n c, .int .i64 T] w (GivesI w (l.map (· % (cap 1099511627776 T + 1)))) := by
  subst hn
  have R := Lib.hid hr
  clear hr
  go_enter Try.func6, Try.ntmps6
  go_wp2_with fail
  go_loopw [5, 6] (fun v i wr => ∃ k : Nat, k ≤ l.length ∧ i = .int .i64 k ∧ OwnI wr w.heap.size v ((l.take k).map (· % (cap 1099511627776 T + 1))) ∧ Below w.heap.size w wr) (fun _ i _ => l.length - (intOf i).toNat)
  case atStart => exact ⟨0, by omega, rfl, OwnI.nil _ _, Below.refl _ _⟩
  case round =>
    obtain ⟨k, hk, rfl, hown, hB⟩ := hrel
    by_cases hlt : k < l.length
    · obtain ⟨ad, rfl, hc0⟩ := R.out.at_ hlt
      have hc : wr.cell? (ad.add k) = some (.int .i64 l[k]) := (hB.cell (cell_lt hc0)).trans hc0
      obtain ⟨x, hx⟩ : ∃ x, l[k] % (cap 1099511627776 T + 1) = x := ⟨_, rfl⟩
      have HT := Lib.hid (show (l.take (k + 1)).map (· % (cap 1099511627776 T + 1)) = (l.take k).map (· % (cap 1099511627776 T + 1)) ++ [x] by
        rw [List.take_succ_eq_append_getElem hlt, List.map_append, ← hx]; rfl)
      have HX := Lib.hid (wrapR_is l[k] T x hx)
      have hk3 : (k : Int) < 3000 := by omega
      have hlen : ((l.take k).map (· % (cap 1099511627776 T + 1))).length ≤ 1000 := by simp; omega
      obtain ⟨m, hm⟩ : ∃ m, m = (l.take k).map (· % (cap 1099511627776 T + 1)) := ⟨_, rfl⟩
      rw [← hm] at hown HT hlen
      clear hm hx hc0
      go_wp2_with fail
      refine (HX.out _).mono ?_; rintro e w' ⟨rfl, rfl⟩
      go_wp2_with (at_builtin; refine app_ints rfl _ _ rfl w.heap.size _ m rfl (hown.alloc _) (some ⟨wr.heap.size, 0, none⟩) 1 1 [x] rfl (ri_lit wr [x] 1 rfl (by decide) _ rfl) rfl ?c1 ?c2 ?_)
      case c1 => simp; omega
      case c2 => have := hB.size; simp; omega
      intro v' w1 hown' hB1
      have h2 : Below w.heap.size w w1 := (hB.alloc hB.size _).trans hB1
      have HN := Lib.hid (show OwnI w1 w.heap.size v' ((l.take (k + 1)).map (· % (cap 1099511627776 T + 1))) by rw [HT.out]; exact hown')
      clear hB1 hown'
      go_wp2
      go_roundw
      case rel => exact ⟨k + 1, by omega, by go_num, HN.out, h2⟩
      case measure => simp [intOf]; omega
    · obtain rfl : k = l.length := by omega
      rw [List.take_length] at hown
      have HO := Lib.hid (And.intro hown hB)
      clear hown hB
      go_wp2_with fail
      go_ret
      exact ⟨_, rfl, HO.out.1, HO.out.2⟩
theorem tame_is (w : World) (A : Option Addr) (c n : Nat) (l : List Int) (hn : l.length = n) (h1000 : n ≤ 1000) (hr : RI w A c l) :
    Calls Try.prog 6 #[.slice A n c, .int .i64 2199023255552] w (GivesI w (l.map (· % (cap 1099511627776 2199023255552 + 1)))) := tameT_is 2199023255552 w A c n l hn h1000 hr
end
end Go.Proofs.Ytjffgppdjdmmgaa
