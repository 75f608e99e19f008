/- Contracts of stamps' newStamp: the closure that calls itself, and the whole. Own work. -/
import Derived.Test.YtdkliknnnolngaaDoorStO
import Derived.Laws.EntriesVeiled
namespace Go.Proofs.YtdkliknnnolngaaDoor
open Go.ChangeShapes Go.WideShapes Go.ChangeAt Go.RowKit Cyc

theorem set_zeros {s : List Int} {k a : Nat} (hs : s.length = k) (ha : a < k) (hz : s.drop a = List.replicate (k - a) 0) (x : Int) : s.set a x = s.take a ++ (x :: List.replicate (k - (a + 1)) 0) := by
  have h1 : s = s.take a ++ List.replicate (k - a) 0 := by rw [← hz, List.take_append_drop]
  have hl : (s.take a).length = a := by rw [List.length_take]; omega
  obtain ⟨j, hj⟩ : ∃ j, k - a = j + 1 := ⟨k - a - 1, by omega⟩
  have hj2 : k - (a + 1) = j := by omega
  conv => lhs; rw [h1, hj, List.replicate_succ]
  rw [List.set_append_right _ _ (by omega), hl, Nat.sub_self, hj2]; rfl
theorem set_cells (s : List Int) (a : Nat) (d : Int) : (s.map (Value.int .i64)).toArray.setIfInBounds a (.int .i64 d) = ((s.set a d).map (Value.int .i64)).toArray := by simp [List.map_set]
theorem set_next {s : List Int} {k a : Nat} (hs : s.length = k) (ha : a < k) (hz : s.drop a = List.replicate (k - a) 0) (x : Int) :
    (s.set a x).length = k ∧ (s.set a x).drop (a + 1) = List.replicate (k - (a + 1)) 0 ∧ (s.set a x).take (a + 1) = s.take a ++ [x] := by
  have hl : (s.take a).length = a := by rw [List.length_take]; omega
  refine ⟨by simp [hs], ?_, ?_⟩
  · rw [set_zeros hs ha hz, List.drop_append, hl, List.drop_eq_nil_of_le (by omega), show a + 1 - a = 1 from by omega]; simp
  · rw [set_zeros hs ha hz, List.take_append, hl, List.take_of_length_le (by omega), show a + 1 - a = 1 from by omega]; simp
theorem grown_below {w w' : World} (h : Below w.heap.size w w') (row : Option Nat) : w.grownBy w' row := ⟨h.os, h.tape, h.output, h.size, fun k hk _ => h.block k hk⟩
theorem grown_set {w : World} (g i : Nat) (u : Value) : w.grownBy (w.setCell ⟨g, i, none⟩ u) (some g) :=
  ⟨rfl, rfl, rfl, by simp [World.setCell], fun k _ hk => Below.heap_setCell w _ u k (fun e => hk (by rw [e]))⟩
theorem grown_drew {w w' : World} {r : Option Nat} (h : w.grownBy w' r) : w.grownBy w'.drew r := ⟨h.os, h.tape, h.output, h.size, h.block⟩
theorem grown_trans {w w1 w2 : World} {r : Option Nat} (h : w.grownBy w1 r) (h' : w1.grownBy w2 r) : w.grownBy w2 r :=
  ⟨h'.os.trans h.os, h'.tape.trans h.tape, h'.output.trans h.output, Nat.le_trans h.size h'.size, fun k hk hn => (h'.block k (Nat.lt_of_lt_of_le hk h.size) hn).trans (h.block k hk hn)⟩
theorem RV.off {w : World} {A : Option Addr} {c : Nat} {vs : List Value} (h : RV w A c vs) {g : Nat} (hne : 0 < vs.length → ∀ ad, A = some ad → ad.block ≠ g) (i : Nat) (u : Value) : RV (w.setCell ⟨g, i, none⟩ u) A c vs :=
  ⟨h.1, h.2.1, h.2.2.1, fun k hk => by
    obtain ⟨ad, e, hc⟩ := h.2.2.2 k hk
    refine ⟨ad, e, ?_⟩
    rw [World.cell?_of_block (w := w) (Below.heap_setCell w _ u _ (by rw [add_block]; exact hne (by omega) ad e))]
    exact hc⟩
theorem OwnV.off {w : World} {B : Nat} {v : Value} {vs : List Value} (h : OwnV w B v vs) : ∃ A c, v = .slice A vs.length c ∧ RV w A c vs ∧ (0 < vs.length → ∀ ad, A = some ad → B ≤ ad.block) := by
  have hh := h
  obtain ⟨A, c, e, hr⟩ := hh.reads
  refine ⟨A, c, e, hr, fun h0 ad ha => ?_⟩
  subst ha
  exact (World.ownsRow.lt h _ (by rw [e]; rfl)).1
/-- What the closure has captured, and what it fills. -/
structure Fill (w0 w : World) (g bk bs bf k : Nat) (s : List Int) : Prop where
  k_ : w.cell? ⟨bk, 0, none⟩ = some (.int .i64 k)
  s_ : w.cell? ⟨bs, 0, none⟩ = some (.slice (some ⟨g, 0, none⟩) k k)
  f_ : w.cell? ⟨bf, 0, none⟩ = some (.func (Fn.func 36) #[] #[.pointer (some ⟨bk, 0, none⟩), .pointer (some ⟨bs, 0, none⟩), .pointer (some ⟨bf, 0, none⟩)])
  blk : Blk w g 3 (s.map (Value.int .i64)).toArray
  nk : bk ≠ g
  ns : bs ≠ g
  nf : bf ≠ g
  base : w0.heap.size ≤ g
  below : Below w0.heap.size w0 w
  len : s.length = k
theorem Fill.next {w0 w w' : World} {g bk bs bf k : Nat} {s : List Int} (h : Fill w0 w g bk bs bf k s) (hb : Below w.heap.size w w') : Fill w0 w' g bk bs bf k s :=
  ⟨(hb.cell (cell_lt h.k_)).trans h.k_, (hb.cell (cell_lt h.s_)).trans h.s_, (hb.cell (cell_lt h.f_)).trans h.f_, h.blk.below hb h.blk.lt, h.nk, h.ns, h.nf, h.base, h.below.trans (hb.mono h.below.size), h.len⟩
theorem cell_off {w : World} {g i : Nat} {u : Value} {p : Addr} (hp : p.block ≠ g) : (w.setCell ⟨g, i, none⟩ u).cell? p = w.cell? p :=
  World.cell?_of_block (w := w) (Below.heap_setCell w _ u _ hp)
theorem Fill.set {w0 w : World} {g bk bs bf k : Nat} {s : List Int} (h : Fill w0 w g bk bs bf k s) (a : Nat) (d : Int) : Fill w0 (w.setCell ⟨g, a, none⟩ (.int .i64 d)) g bk bs bf k (s.set a d) :=
  ⟨(cell_off h.nk).trans h.k_, (cell_off h.ns).trans h.s_, (cell_off h.nf).trans h.f_, by rw [← set_cells]; exact h.blk.set_ a _, h.nk, h.ns, h.nf, h.base, h.below.setCell h.base _, by rw [List.length_set, h.len]⟩
/-- What the closure leaves. -/
def Filled (w : World) (g : Nat) (t : List Int) (e : Ending) (w' : World) : Prop := (∃ v, e = .returned v) ∧ w.grownBy w' (some g) ∧ Blk w' g 3 (t.map (Value.int .i64)).toArray
set_option maxHeartbeats 2000000 in
theorem fill_is : ∀ (m k a : Nat), k - a = m → a ≤ k → k ≤ 8 → ∀ (A : Option Addr) (c n : Nat) (L : List (List Int)) (_ : L.length = n) (_ : n ≤ 1000) (p : List Int) (_ : Cyc.Alike L k a p) (w0 w : World) (_ : Ring w0) (g bk bs bf : Nat) (s : List Int)
    (_ : Fill w0 w g bk bs bf k s) (_ : s.drop a = List.replicate (k - a) 0) (vs : List Value) (_ : RV w A c vs) (_ : 0 < vs.length → ∀ ad, A = some ad → ad.block ≠ g) (_ : Vals w0 vs L) (t : List Int) (_ : s.take a ++ overL (k - a) (L.map (List.drop a)) = t),
    Calls Tryd.prog 36 #[.slice A n c, .int .i64 a, .pointer (some ⟨bk, 0, none⟩), .pointer (some ⟨bs, 0, none⟩), .pointer (some ⟨bf, 0, none⟩)] w (Filled w g t) := by
  intro m
  induction m with
  | zero =>
    intro k a hm hak hk8 A c n L hn h1000 p hAl w0 w ht g bk bs bf s hF hz vs hv hoff hV t ht2
    obtain rfl : a = k := by omega
    rw [over_stop (.inr rfl), ← hz, List.take_append_drop] at ht2
    subst ht2
    have hmax := hv.max
    unfold maxLen at hmax
    have hlv : vs.length = n := by rw [hV.1, hn]
    have hP : Hid (Filled w g s (.returned (.tuple #[])) w) := Lib.hid ⟨⟨_, rfl⟩, World.grownBy.refl _ _, hF.blk⟩
    have hkc := hF.k_
    clear hF hv hoff hV hz hAl ht
    by_cases h0 : n = 0
    · subst h0
      go_enter Tryd.func36, Tryd.ntmps36
      go_wp2_with fail
      go_end0
      exact ⟨⟨_, rfl⟩, hP.out.2⟩
    · have hb0 : ((n : Int) == 0) = false := by simp; omega
      go_enter Tryd.func36, Tryd.ntmps36
      go_wp2_with fail
      go_end0
      exact ⟨⟨_, rfl⟩, hP.out.2⟩
  | succ m ih =>
    intro k a hm hak hk8 A c n L hn h1000 p hAl w0 w ht g bk bs bf s hF hz vs hv hoff hV t ht2
    have hmax := hv.max
    unfold maxLen at hmax
    have hlv : vs.length = n := by rw [hV.1, hn]
    have hkc := hF.k_
    by_cases h0 : n = 0
    · subst h0
      have hnil : L = [] := List.eq_nil_of_length_eq_zero hn
      rw [over_stop (.inl hnil), ← hz, List.take_append_drop] at ht2
      subst ht2
      have hP : Hid (Filled w g s (.returned (.tuple #[])) w) := Lib.hid ⟨⟨_, rfl⟩, World.grownBy.refl _ _, hF.blk⟩
      clear hF hv hoff hV hz hAl ht ih
      go_enter Tryd.func36, Tryd.ntmps36
      go_wp2_with fail
      go_end0
      exact ⟨⟨_, rfl⟩, hP.out.2⟩
    · have hlt : a < k := by omega
      have hL0 : L ≠ [] := fun e => by rw [e] at hn; exact h0 hn.symm
      have hb0 : ((n : Int) == 0) = false := by simp; omega
      have hb1 : ((a : Int) == (k : Int)) = false := by simp; omega
      have hg0 := hAl _ (great_mem hL0)
      have ham : a < (great L).length := by rw [hg0.1]; exact hlt
      have ham' : (a : Int) < (great L).length := by omega
      have hR : RR w A c L := ⟨vs, hv, hV.below hF.below⟩
      have hring : Ring w := ht.below hF.below
      have hgm := hg0.1
      obtain ⟨d, hd⟩ : ∃ d, d = (great L)[a] := ⟨_, rfl⟩
      have hdg : (great L).getD a 0 = d := by rw [hd, List.getD_eq_getElem?_getD, List.getElem?_eq_getElem ham]; rfl
      have hdom : (0 ≤ d ∧ d < 3) := by rw [hd]; exact fineL_all hg0.2.1 a ham
      have hal : ∀ r ∈ L, a < r.length := fun r hr => by rw [(hAl r hr).1]; exact hlt
      have G := Lib.hid (greatest_is A c n L hn (by omega) w hring hR (great L) rfl)
      have WD := Lib.hid (withDigit_is A c n a d L hn h1000 hal w0 w vs hv hV hF.below (withL L a d) rfl)
      have FF := Lib.hid hF
      have TT := Lib.hid ht2
      have HH := Lib.hid hd
      have h0' : (0 : Int) < n := by omega
      clear hd hF hv hoff hV ht2 hR hring hg0
      go_enter Tryd.func36, Tryd.ntmps36
      go_wp2_with fail
      refine G.out.mono ?_; rintro e w1 ⟨⟨A1, c1, rfl, hr1⟩, rfl⟩
      obtain ⟨ad1, rfl, hc1⟩ := hr1.at_ ham
      rw [← HH.out] at hc1
      go_wp2_with fail
      refine WD.out.mono ?_; rintro e w1 ⟨v, us, rfl, hown, hU, hB⟩
      obtain ⟨A2, c2, rfl, hv2, hoff2⟩ := hown.off
      have F1 := FF.out.next hB
      have hkc1 := F1.k_
      have hsc1 := F1.s_
      have hfc1 := F1.f_
      have hul := hU.1
      have hul2 := withL_len L a d
      have hus : (us.length : Int) ≤ n := by omega
      by_cases hge : k - a ≤ us.length
      · have hge' : (k : Int) - a ≤ us.length := by omega
        have hring1 : Ring w1 := (ht.below FF.out.below).below hB
        have hfr := F1.blk.frozen a
        have hcell := F1.blk.cell a
        have hls : a < s.length := by rw [F1.len]; exact hlt
        rw [List.getElem?_toArray, List.getElem?_map, List.getElem?_eq_getElem hls, Option.map_some] at hcell
        generalize (Value.int .i64 s[a]) = old at hcell
        have FE := Lib.hid (F1.set a (nextD d))
        have EQ : Hid (s.set a (nextD d) = t) := Lib.hid (by
          rw [set_zeros FF.out.len hlt hz, ← TT.out, over_full hAl hL0 hlt hdg (by rw [← hul]; exact hge)])
        have NX := fun w2 (h : Ring w2) => next_is d (nextD d) rfl w2 h
        go_wp2_with fail
        go_region_with (first | (go_at_call 39; refine (NX _ (by exact hring1)).mono ?_; rintro e w' ⟨rfl, rfl⟩))
        all_goals (go_wp2_with fail; go_end0; exact ⟨⟨_, rfl⟩, (by first | exact grown_trans (grown_below hB _) (grown_set g a (.int .i64 (nextD d))) | exact grown_trans (grown_below hB _) (grown_drew (grown_set g a (.int .i64 (nextD d))))), by rw [← EQ.out]; exact FE.out.blk⟩)
      · have hge' : ¬ (k : Int) - a ≤ us.length := by omega
        have hfr := F1.blk.frozen a
        have hcell := F1.blk.cell a
        have hls : a < s.length := by rw [F1.len]; exact hlt
        rw [List.getElem?_toArray, List.getElem?_map, List.getElem?_eq_getElem hls, Option.map_some] at hcell
        generalize (Value.int .i64 s[a]) = old at hcell
        obtain ⟨n1, n2, n3⟩ := set_next FF.out.len hlt hz d
        have F2 := F1.set a d
        have hfc2 := F2.f_
        have hg : g < w.heap.size := FF.out.blk.lt
        have hoff3 : 0 < us.length → ∀ ad, A2 = some ad → ad.block ≠ g := fun h1 ad e => by have := hoff2 h1 ad e; omega
        have EQ : Hid ((s.set a d).take (a + 1) ++ overL (k - (a + 1)) ((withL L a d).map (List.drop (a + 1))) = t) := Lib.hid (by
          rw [n3, ← TT.out, over_more hAl hL0 hlt hdg (by rw [← hul]; omega), List.append_assoc]; rfl)
        have hrec := ih k (a + 1) (by omega) (by omega) hk8 A2 c2 (withL L a d).length (withL L a d) rfl (by omega) (p ++ [d]) (hAl.with_ hlt d) w0 _ ht g bk bs bf _ F2 n2 us (hv2.off hoff3 a (.int .i64 d)) hoff3 hU t EQ.out
        rw [show ((a + 1 : Nat) : Int) = (a : Int) + 1 from by omega] at hrec
        have REC := Lib.hid hrec
        clear hrec ih
        go_wp2_with fail
        refine REC.out.mono ?_; rintro e w3 ⟨⟨v, rfl⟩, hg3, hb3⟩
        go_wp2_with fail
        go_end0
        exact ⟨⟨_, rfl⟩, grown_trans (grown_trans (grown_below hB _) (grown_set g a (.int .i64 d))) hg3, hb3⟩
theorem OwnI.of_blk {w : World} {B g n : Nat} {l : List Int} (h : Blk w g 3 (l.map (Value.int .i64)).toArray) (hB : B ≤ g) (hn : l.length = n) (hm : n ≤ maxLen) : OwnI w B (.slice (some ⟨g, 0, none⟩) n n) l := by
  subst hn
  exact ⟨by simp, .inr ⟨g, l.length, _, rfl, hB, h, Nat.le_refl _, hm, by simp, by rw [Nat.mul_one]; exact List.take_of_length_le (by simp)⟩⟩
def fillV (bk bs bf : Nat) : Value := .func (Fn.func 36) #[] #[.pointer (some ⟨bk, 0, none⟩), .pointer (some ⟨bs, 0, none⟩), .pointer (some ⟨bf, 0, none⟩)]
theorem fill_start (w : World) (k : Nat) (T : TypeId) :
    Fill w ((((w.alloc (.cells #[.int .i64 k] 3)).alloc (.cells (zeroCells k) 3)).alloc (.cells #[.slice (some ⟨w.heap.size + 1, 0, none⟩) k k] 31)).alloc (.cells #[fillV w.heap.size (w.heap.size + 1 + 1) (w.heap.size + 1 + 1 + 1)] T))
      (w.heap.size + 1) w.heap.size (w.heap.size + 1 + 1) (w.heap.size + 1 + 1 + 1) k (List.replicate k 0) := by
  have b1 := Blk.new w 3 #[.int .i64 k]
  have b2 := Blk.new (w.alloc (.cells #[.int .i64 k] 3)) 3 (zeroCells k)
  have b3 := Blk.new ((w.alloc (.cells #[.int .i64 k] 3)).alloc (.cells (zeroCells k) 3)) 31 #[.slice (some ⟨w.heap.size + 1, 0, none⟩) k k]
  have b4 := Blk.new (((w.alloc (.cells #[.int .i64 k] 3)).alloc (.cells (zeroCells k) 3)).alloc (.cells #[.slice (some ⟨w.heap.size + 1, 0, none⟩) k k] 31)) T #[fillV w.heap.size (w.heap.size + 1 + 1) (w.heap.size + 1 + 1 + 1)]
  have B1 := below_alloc w (.cells #[.int .i64 k] 3)
  have B2 := below_alloc (w.alloc (.cells #[.int .i64 k] 3)) (.cells (zeroCells k) 3)
  have B3 := below_alloc ((w.alloc (.cells #[.int .i64 k] 3)).alloc (.cells (zeroCells k) 3)) (.cells #[.slice (some ⟨w.heap.size + 1, 0, none⟩) k k] 31)
  have B4 := below_alloc (((w.alloc (.cells #[.int .i64 k] 3)).alloc (.cells (zeroCells k) 3)).alloc (.cells #[.slice (some ⟨w.heap.size + 1, 0, none⟩) k k] 31)) (.cells #[fillV w.heap.size (w.heap.size + 1 + 1) (w.heap.size + 1 + 1 + 1)] T)
  simp only [World.size_alloc] at b2 b3 b4
  have c1 := ((b1.below B2 b1.lt).below B3 (b1.below B2 b1.lt).lt).below B4 ((b1.below B2 b1.lt).below B3 (b1.below B2 b1.lt).lt).lt
  have c2 := (b2.below B3 b2.lt).below B4 (b2.below B3 b2.lt).lt
  have c3 := b3.below B4 b3.lt
  refine ⟨?_, ?_, ?_, c2, by omega, by omega, by omega, by omega, ?_, by simp⟩
  · rw [c1.cell]; rfl
  · rw [c3.cell]; rfl
  · rw [b4.cell]; rfl
  · exact B1.trans ((B2.mono B1.size).trans ((B3.mono (Nat.le_trans B1.size B2.size)).trans (B4.mono (Nat.le_trans B1.size (Nat.le_trans B2.size B3.size)))))
set_option maxHeartbeats 800000 in
theorem newStamp_is (A : Option Addr) (c n k : Nat) (L : List (List Int)) (hn : L.length = n) (h1000 : n ≤ 1000) (hk : k ≤ 8) (hL : rowsL k L = true) (w : World) (ht : Ring w) (vs : List Value) (hv : RV w A c vs) (hV : Vals w vs L) (t : List Int) (htt : overL k L = t) :
    Calls Tryd.prog 28 #[.slice A n c, .int .i64 k] w (GivesI w t) := by
  have hmf : ∀ (fn : Fn) (first cap : Array Value) (w : World), (Instr.makeFunc fn first cap).run Tryd.prog w = .ok (.func fn first cap) w := fun _ _ _ _ => rfl
  have hkk : min (max (k : Int) 0) 8 = (k : Int) := by omega
  have F := fill_start w k 50
  have hAl : Cyc.Alike L k 0 [] := fun r hr => by have := rowsL_iff.1 hL r hr; exact ⟨by omega, this.2, by simp⟩
  have hoff : 0 < vs.length → ∀ ad, A = some ad → ad.block ≠ w.heap.size + 1 := fun h0 ad e => by
    obtain ⟨ad', e', hc⟩ := hv.at_ h0
    rw [e] at e'; cases e'
    have := cell_lt hc
    rw [add_block] at this; omega
  have hlen : t.length = k := by rw [← htt, overL_len]
  have C := Lib.hid (fill_is k k 0 (by omega) (by omega) hk A c n L hn h1000 [] hAl w _ ht _ _ _ _ _ F (by simp) vs (hv.below F.below) hoff hV t (by rw [show (List.drop 0 : List Int → List Int) = id from rfl, List.map_id]; simpa using htt))
  have FF := Lib.hid F
  clear F hoff hAl htt
  go_enter Tryd.func28, Tryd.ntmps28
  go_wp2_with fail
  refine (zeros_is k k hkk _).mono ?_; rintro e w1 ⟨rfl, rfl⟩
  go_wp2_with fail
  refine C.out.mono ?_; rintro e w5 ⟨⟨v, rfl⟩, hg, hb⟩
  have hs := hg.cell FF.out.s_ (by intro e; have := FF.out.ns; simp at e)
  have hB5 : Below w.heap.size w w5 := FF.out.below.grown hg FF.out.below.size (fun j e => by cases e; exact FF.out.base)
  have hO : OwnI w5 w.heap.size (.slice (some ⟨w.heap.size + 1, 0, none⟩) k k) t := OwnI.of_blk hb FF.out.base hlen (by unfold maxLen; omega)
  clear hg hb
  go_wp2_with fail
  go_ret
  exact ⟨_, rfl, hO, hB5⟩
end Go.Proofs.YtdkliknnnolngaaDoor
