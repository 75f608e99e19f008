/- steady: Read, bit, writeOf. Own work. -/
import Derived.Test.YtbcbdcglfgimeaaTWalk
import Derived.Test.YtbcbdcglfgimeaaSdT
namespace Go.Proofs.Ytbcbdcglfgimeaa
open Go.ChangeShapes Go.WideShapes Go.ChangeAt Go.RowKit CellM TapeM

theorem rdSd_does (k b l n wr rd tp : Int) : Does 9 (fun p => #[p, .agg #[.int .i64 k, .int .i64 b, .int .i64 l, .int .i64 n, .int .i64 wr, .int .i64 rd, .int .i64 tp]]) (rdSd b) (Value.int .i64) := by
  intro C wx K kk R H
  have hb := below_alloc wx (.cells #[.int .i64 k, .int .i64 b, .int .i64 l, .int .i64 n, .int .i64 wr, .int .i64 rd, .int .i64 tp] 23)
  have HN := Lib.hid (H.call (read_does b) hb)
  have HK := Lib.hid (Keeps.below (K := K) hb)
  clear H hb
  go_enter Try.func9, Try.ntmps9
  go_wp2_with fail
  refine HN.out.mono ?_
  rintro e w' (⟨x, rfl, hN, hK⟩ | ⟨rfl, hs⟩)
  · have HG := Lib.hid (And.intro hN hK)
    clear hN hK HN
    go_wp2_with fail
    go_ret
    exact .inl ⟨x, rfl, HG.out.1.less (fun b h => .inl h), HK.out.trans (HG.out.2.less (fun b h => .inl h))⟩
  · exact ⟨rfl, .inr ⟨rfl, hs⟩⟩
theorem bit_is (v : Int) (w : World) : Calls Try.prog 28 #[.int .i64 v] w fun e w' => e = .returned (.int .i64 (bitI v)) ∧ w = w' := by
  by_cases h : v = 0
  · have hb : bitI v = 0 := if_pos h
    subst h
    go_enter Try.func28, Try.ntmps28
    go_wp2_with fail
    go_ret
    exact ⟨rfl, rfl⟩
  · have hb : bitI v = 1 := if_neg h
    have h1 : (v == 0) = false := by simpa using h
    have HB := Lib.hid hb
    clear hb
    go_enter Try.func28, Try.ntmps28
    go_wp2_with fail
    go_ret
    exact ⟨ret_int HB.out.symm, rfl⟩
theorem writeOf_is (k b l n wr rd tp v : Int) (w : World) : Calls Try.prog 26 #[.agg #[.int .i64 k, .int .i64 b, .int .i64 l, .int .i64 n, .int .i64 wr, .int .i64 rd, .int .i64 tp], .int .i64 v] w fun e w' => e = .returned (.agg #[.int .i64 2, .int .i64 b, .int .i64 v]) ∧ Below w.heap.size w w' := by
  go_enter Try.func26, Try.ntmps26
  go_wp2_with fail
  refine bodyPost_ret (v := .agg #[.int .i64 2, .int .i64 b, .int .i64 v]) (by simp [results, Try.results26, go_sem]) rfl ?_
  refine ⟨rfl, ?_⟩
  go_grown
end Go.Proofs.Ytbcbdcglfgimeaa
