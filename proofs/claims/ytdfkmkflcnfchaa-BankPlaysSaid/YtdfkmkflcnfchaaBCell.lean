/- The bank's cell: the one that was used, or one at its beginning. Own work. -/
import Derived.Test.YtdfkmkflcnfchaaBLen
import Derived.Test.YtdfkmkflcnfchaaShelf
import Derived.Deep.RegionHeld3
namespace Go.Proofs.Ytdfkmkflcnfchaa
open Go.ChangeShapes Go.WideShapes Go.ChangeAt Go.RowKit CellM

theorem below_undrew {w w' : World} {n : Nat} (h : Below (w.drewN n).heap.size (w.drewN n) w') : Below w.heap.size w w' := ⟨h.os, h.tape, h.output, h.size, h.block⟩
theorem valsI_getD {l : List Int} {j : Nat} (hj : j < l.length) : (valsI l)[j]? = some (.int .i64 (l.getD j 0)) := by
  rw [valsI_at hj, List.getD_eq_getElem?_getD, List.getElem?_eq_getElem hj]; rfl
/-- The search of a strip. -/
theorem search_is {w : World} {bb : Nat} {L : List Strip} {SA EA : Option Addr} {sh sc eh ec mb : Nat} (H : BFix w bb L SA EA sh sc eh ec mb) (hok : errS L = 0) (hne : (filt L).length ≠ 0) (x : Int) (i : Nat) (hi : (endsF 0 L).countP (fun e => decide (e < x)) = i) :
    ∃ b, Calls Try.prog 39 #[.slice EA (filt L).length ec, .int .i64 x] w fun e w' => e = .returned (.tuple #[.int .i64 (i : Nat), .bool b]) ∧ ∃ q, w' = w.drewN q := by
  obtain ⟨hA, _⟩ := H.re.get (show 0 < (filt L).length by omega)
  have hl := ends_len L 0
  have h1 := filt_sum L (errS_many hok)
  have h2 := (errS_ok hok).2
  subst hA
  have hc : ∀ j, j < (endsF 0 L).length → w.cell? ⟨eh, 0 + j, none⟩ = some (.int .i64 ((endsF 0 L).getD j 0)) := fun j hj => by
    rw [Nat.zero_add]; exact (H.re.at_ j _ (valsI_getD hj)).1
  have ht : (endsF 0 L).take (filt L).length = endsF 0 L := by rw [← hl, List.take_length]
  have hcl := Try.slices_BinarySearch_int eh 0 (filt L).length ec (endsF 0 L) x w (by omega) (by omega) hc (by rw [ht]; exact ends_sorted L 0)
  rw [ht] at hcl
  rw [← hi]
  exact ⟨_, hcl⟩
set_option maxRecDepth 20000 in
set_option maxHeartbeats 2000000 in
theorem cellNew_is {w : World} {bb : Nat} {L : List Strip} {SA EA : Option Addr} {sh sc eh ec mb q : Nat} {D : DataW Unit} {no : List Int} {pb : Int → Nat} (H : BFix w bb L SA EA sh sc eh ec mb) (hmo : w.ownsMap Try.prog 3 Rp mb q D) (hmp : MapOf D no pb) (hok : errS L = 0) (n : Int) (h0 : 0 ≤ n) (h1 : n < sumS L) (hn : n ∉ no) :
    Calls Try.prog 25 #[.pointer (some ⟨bb, 0, none⟩), .int .i64 n] w fun e w' => ∃ p, e = .returned (.pointer (some ⟨p, 0, none⟩)) ∧ PAt w' p (newC L n) (fun b => w.heap.size ≤ b) ∧ Below w.heap.size w w' := by
  have h2 := (errS_ok hok).2
  have hwf : (Lit.int .i64 n).wf = true := WalkArith.wf_i64 (by omega)
  have hlk := look_out hmo hmp hwf hn
  obtain ⟨s, hs1, hs2⟩ := search_at L 0 n (errS_many hok) h0 (by omega)
  obtain ⟨i, hi⟩ : ∃ i, (endsF 0 L).countP (fun e => decide (e < n + 1)) = i := ⟨_, rfl⟩
  rw [hi] at hs2
  have hil : i < (filt L).length := (List.getElem?_eq_some_iff.1 hs2).1
  obtain ⟨b, hbs⟩ := search_is H hok (by omega) (n + 1) i hi
  obtain ⟨hA, _⟩ := H.rs.get hil
  have hE := H.e.1
  have c2 := H.m.1
  have c0 := H.s.1
  have k1 : w.cell? ⟨sh, i * 3 + 1, none⟩ = some (.int .i64 s.kind) := (H.rs.at_ _ _ (flatS_at _ i s 1 _ hs2 rfl)).1
  have k2 : w.cell? ⟨sh, i * 3 + 2, none⟩ = some (.int .i64 s.top) := (H.rs.at_ _ _ (flatS_at _ i s 2 _ hs2 rfl)).1
  subst hA
  have hnc : newC L n = new s.kind s.top := by
    unfold newC
    rw [if_neg (by omega), show stripAt L n = some s by rw [← hs1]; congr 1; omega]
  have hfl : (filt L).length ≤ 9223372036854775807 := by have := filt_sum L (errS_many hok); omega
  have hil2 : (i : Int) < ((filt L).length : Int) := by omega
  obtain ⟨fl, hfl'⟩ : ∃ fl, (filt L).length = fl := ⟨_, rfl⟩
  rw [hfl'] at hbs hE c0 hfl hil hil2
  have HS := Lib.hid (And.intro c0 (And.intro k1 k2))
  have HB := Lib.hid hbs; have HN := Lib.hid hnc
  clear hbs hnc hs1 hs2 hi hmo hmp hok hn H hwf hfl'
  go_enter Try.func25, Try.ntmps25
  go_wp2_with fail
  refine HB.out.mono ?_; rintro e w' ⟨rfl, q', rfl⟩
  go_wp2_with fail
  go_region_held3 (fun wx => wx.cell? ⟨bb, 0, none⟩ = some (.slice (some ⟨sh, 0, none⟩) fl sc) ∧ wx.cell? ⟨sh, i * 3 + 1, none⟩ = some (.int .i64 s.kind) ∧ wx.cell? ⟨sh, i * 3 + 2, none⟩ = some (.int .i64 s.top))
    (first | exact HS.out | exact ⟨(hB.cell (cell_lt HS.out.1)).trans HS.out.1, (hB.cell (cell_lt HS.out.2.1)).trans HS.out.2.1, (hB.cell (cell_lt HS.out.2.2)).trans HS.out.2.2⟩)
    (first | (go_at_call 40; with_reducible refine (new_is _ s.kind s.top).mono ?_; rintro e w' ⟨rfl, hP, hB0⟩; have hB := below_undrew hB0))
  all_goals
    go_wp2_with fail
    go_ret
    exact ⟨_, rfl, by rw [HN.out]; exact hP, hB⟩
theorem cellUsed_is {w : World} {bb : Nat} {L : List Strip} {SA EA : Option Addr} {sh sc eh ec mb q : Nat} {D : DataW Unit} {no : List Int} {pb : Int → Nat} (H : BFix w bb L SA EA sh sc eh ec mb) (hmo : w.ownsMap Try.prog 3 Rp mb q D) (hmp : MapOf D no pb) (n : Int) (h0 : 0 ≤ n) (h1 : n ≤ 1000000) (hn : n ∈ no) :
    Calls Try.prog 25 #[.pointer (some ⟨bb, 0, none⟩), .int .i64 n] w fun e w' => e = .returned (.pointer (some ⟨pb n, 0, none⟩)) ∧ w = w' := by
  have hwf : (Lit.int .i64 n).wf = true := WalkArith.wf_i64 (by omega)
  have hlk := look_in hmo hmp hwf hn
  have c2 := H.m.1
  clear hmo hmp H hwf
  go_enter Try.func25, Try.ntmps25
  go_wp2_with fail
  go_ret
  exact ⟨rfl, rfl⟩
end Go.Proofs.Ytdfkmkflcnfchaa
