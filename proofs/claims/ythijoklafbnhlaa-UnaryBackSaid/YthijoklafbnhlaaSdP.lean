/- steady: Read, bit, writeOf. Own work. -/
import Derived.Test.YthijoklafbnhlaaTWalk
import Derived.Test.YthijoklafbnhlaaSdT
namespace Go.Proofs.Ythijoklafbnhlaa
open Go.ChangeShapes Go.WideShapes Go.ChangeAt Go.RowKit CellM TapeM

theorem rdSd_does (k b l n wr rd tp : Int) : Does 43 (fun p => #[p, .agg #[.int .i64 k, .int .i64 b, .int .i64 l, .int .i64 n, .int .i64 wr, .int .i64 rd, .int .i64 tp]]) (rdSd b) (Value.int .i64) := by
  intro C wx K kk R H
  have hb := below_alloc wx (.cells #[.int .i64 k, .int .i64 b, .int .i64 l, .int .i64 n, .int .i64 wr, .int .i64 rd, .int .i64 tp] 23)
  have HN := Lib.hid (H.call (read_does b) hb)
  have HK := Lib.hid (Keeps.below (K := K) hb)
  clear H hb
  go_enter Try.func43, Try.ntmps43
  go_wp2_with fail
  refine HN.out.mono ?_
  rintro e w' (⟨x, rfl, hN, hK⟩ | ⟨rfl, hs⟩)
  · have HG := Lib.hid (And.intro hN hK)
    clear hN hK HN
    go_wp2_with fail
    go_ret
    exact .inl ⟨x, rfl, HG.out.1.less (fun b h => .inl h), HK.out.trans (HG.out.2.less (fun b h => .inl h))⟩
  · exact ⟨rfl, .inr ⟨rfl, hs⟩⟩
theorem bit_is (v : Int) (w : World) : Calls Try.prog 55 #[.int .i64 v] w fun e w' => e = .returned (.int .i64 (bitI v)) ∧ w = w' := by
  by_cases h : v = 0
  · have hb : bitI v = 0 := if_pos h
    subst h
    go_enter Try.func55, Try.ntmps55
    go_wp2_with fail
    go_ret
    exact ⟨rfl, rfl⟩
  · have hb : bitI v = 1 := if_neg h
    have h1 : (v == 0) = false := by simpa using h
    have HB := Lib.hid hb
    clear hb
    go_enter Try.func55, Try.ntmps55
    go_wp2_with fail
    go_ret
    exact ⟨ret_int HB.out.symm, rfl⟩
theorem writeOf_is (k b l n wr rd tp v : Int) (w : World) : Calls Try.prog 53 #[.agg #[.int .i64 k, .int .i64 b, .int .i64 l, .int .i64 n, .int .i64 wr, .int .i64 rd, .int .i64 tp], .int .i64 v] w fun e w' => e = .returned (.agg #[.int .i64 2, .int .i64 b, .int .i64 v]) ∧ Below w.heap.size w w' := by
  go_enter Try.func53, Try.ntmps53
  go_wp2_with fail
  refine bodyPost_ret (v := .agg #[.int .i64 2, .int .i64 b, .int .i64 v]) (by simp [results, Try.results53, go_sem]) rfl ?_
  refine ⟨rfl, ?_⟩
  go_grown
end Go.Proofs.Ythijoklafbnhlaa
