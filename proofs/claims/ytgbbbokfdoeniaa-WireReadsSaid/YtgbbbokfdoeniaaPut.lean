/- Contracts of wire's writing calls and of the reference's. Own work. -/
import Derived.Test.YtgbbbokfdoeniaaWire
import Derived.Test.YtgbbbokfdoeniaaBytes
namespace Go.Proofs.Ytgbbbokfdoeniaa
open Go.ChangeShapes Go.WideShapes Go.ChangeAt Go.RowKit Wire

/-- Numbers that came in read as a list. -/
def Reads (w : World) (A : Option Addr) (l : List Int) : Prop := ∀ k (h : k < l.length), ∃ ad, A = some ad ∧ w.cell? (ad.add k) = some (.int .i64 l[k])
theorem Reads.keep {w w' : World} {A : Option Addr} {l : List Int} (h : Reads w A l) (hk : ∀ p x, w.cell? p = some x → w'.cell? p = some x) : Reads w' A l :=
  fun k hl => by obtain ⟨ad, e, hc⟩ := h k hl; exact ⟨ad, e, hk _ _ hc⟩
theorem Reads.below {w w' : World} {A : Option Addr} {l : List Int} (h : Reads w A l) (hb : Below w.heap.size w w') : Reads w' A l :=
  h.keep fun _ _ hc => (hb.cell (cell_lt hc)).trans hc

theorem clone_any (B : Nat) (A : Option Addr) (c : Nat) (L : List UInt8) (w : World) (h : BR w B A c L) (hl : L.length ≤ 140737488355328) :
    Calls Try.prog 18 #[.slice A L.length c] w fun e w' => ∃ v, e = .returned v ∧ OwnB w' w.heap.size v L ∧ Below w.heap.size w w' := by
  have q := fun w => eql_nil w A L.length c
  cases A with
  | none =>
    have h0 := h.2.2.1 rfl
    have h1 := h.1
    have : L = [] := List.eq_nil_of_length_eq_zero (by omega)
    subst this; subst h0
    clear h h1
    replace q : ∀ w, (binOp .eql 22 (.slice none 0 0) (.slice none 0 0)).run Try.prog w = .ok (.bool true) w := q
    go_enter Try.func18, Try.ntmps18
    go_wp2_with fail
    go_ret
    exact ⟨_, rfl, OwnB.nil _ _, Below.refl _ _⟩
  | some ad =>
    have H := Lib.hid h; clear h
    go_enter Try.func18, Try.ntmps18
    go_wp2_with (at_builtin; refine app_bytes rfl _ _ rfl w.heap.size _ [] rfl (OwnB.lit w w.heap.size (Nat.le_refl _) [] 0 rfl (Nat.zero_le _) #[] rfl) B (some ad) L.length c L rfl ?c1 rfl ?c2 ?c3 ?_)
    case c1 => exact ⟨H.out.1, H.out.2.1, H.out.2.2.1, fun k hk => by
      obtain ⟨ad', e, hb, hc⟩ := H.out.2.2.2 k hk
      exact ⟨ad', e, hb, (World.cell?_alloc_lt w _ _ (cell_lt hc)).trans hc⟩⟩
    case c2 => simpa using hl
    case c3 => simp
    intro v' w' hown hb
    go_wp2_with fail
    go_ret
    exact ⟨_, rfl, hown, (below_alloc w _).trans hb⟩

/-- A last byte, a byte with more behind it. -/
def loB (x : Nat) : UInt8 := UInt8.ofNat x
def hiB (x : Nat) : UInt8 := UInt8.ofNat (128 + x % 128)
theorem loB_lit {x : Nat} (h : x < 128) : #[Value.int .u8 (x : Int)] = ([loB x].map byteV).toArray := by
  rw [show ([loB x].map byteV).toArray = #[byteV (UInt8.ofNat x)] from rfl, byteV_nat (by omega)]
theorem hiB_lit (x : Nat) : #[Value.int .u8 ((x : Int) % 128 + 128)] = ([hiB x].map byteV).toArray := by
  rw [show ([hiB x].map byteV).toArray = #[byteV (UInt8.ofNat (128 + x % 128))] from rfl, byteV_nat (by omega)]
  congr 3
  omega
theorem hiB_lit' (x : Nat) : #[Value.int .u8 (128 + (x : Int) % 128)] = ([hiB x].map byteV).toArray := by
  rw [← hiB_lit, Int.add_comm]
theorem put_lo {x : Nat} (h : x < 128) : putN x = [loB x] := putN_low h
theorem put_hi {x : Nat} (h : 128 ≤ x) : putN x = hiB x :: putN (x / 128) := putN_high h
theorem u8_wrap_low {x : Nat} (h : x < 256) : IntKind.u8.wrap (x : Int) = (x : Int) := by rw [IntKind.wrap_u8]; omega
set_option maxHeartbeats 1000000 in
theorem putOne_any (base : Nat) (v : Value) (L : List UInt8) (n : Nat) (hn : n < 34359738368) (w : World) (hown : OwnB w base v L) (hl : L.length ≤ 1000000) (hbase : base ≤ w.heap.size) :
    Calls Try.prog 19 #[v, .int .i64 n] w fun e w' => ∃ v', e = .returned v' ∧ OwnB w' base v' (L ++ putN n) ∧ Below base w w' := by
  have hp5 := putN_len5 hn
  go_enter Try.func19, Try.ntmps19
  go_wp2_with fail
  go_loopw [0, 1] (fun b i wr => ∃ (x : Nat) (M : List UInt8), x ≤ n ∧ i = .int .i64 x ∧ OwnB wr base b M ∧ Hid (M ++ putN x = L ++ putN n) ∧ Below base w wr) (fun _ i _ => (intOf i).toNat)
  case atStart => exact ⟨n, L, Nat.le_refl _, rfl, hown, Lib.hid rfl, Below.refl _ _⟩
  case round =>
    obtain ⟨x, M, hx, rfl, hM, hE, hB⟩ := hrel
    have hlen : M.length ≤ 1000005 := by
      have := congrArg List.length hE.out
      simp only [List.length_append] at this; omega
    by_cases hlt : x < 128
    · have hu := u8_wrap_low (x := x) (by omega)
      have hd : decide ((128:Int) ≤ (x:Int)) = false := by simp; omega
      go_wp2_with (at_builtin; (refine app_bytes rfl _ _ rfl base _ M rfl (hM.alloc _) _ _ 1 1 [loB x] rfl (br_lit wr [loB x] 1 rfl (by decide) _ ?c0) rfl ?c2 ?c3 ?_))
      case c0 => exact loB_lit hlt
      case c2 => simp; omega
      case c3 => have := hB.size; simp; omega
      intro v' w' hown' hb
      go_wp2_with fail
      go_ret
      refine ⟨_, rfl, ?_, ((hB.alloc (by have := hB.size; omega) _).trans hb)⟩
      rw [← hE.out, put_lo hlt]; exact hown'
    · have hd : decide ((128:Int) ≤ (x:Int)) = true := by simp; omega
      go_wp2_with (at_builtin; (refine app_bytes rfl _ _ rfl base _ M rfl (hM.alloc _) _ _ 1 1 [hiB x] rfl (br_lit wr [hiB x] 1 rfl (by decide) _ ?c0) rfl ?c2 ?c3 ?_))
      case c0 => exact hiB_lit x
      case c2 => simp; omega
      case c3 => have := hB.size; simp; omega
      intro v' w' hown' hb
      go_wp2_with fail
      go_roundw
      case rel =>
        refine ⟨x / 128, _, by have := Nat.div_le_self x 128; omega, by go_num, hown', Lib.hid ?_, ((hB.alloc (by have := hB.size; omega) _).trans hb)⟩
        rw [← hE.out, put_hi (x := x) (by omega), List.append_assoc]; rfl
      case measure => simp [intOf]; omega

theorem putOne_at (base : Nat) (v : Value) (L : List UInt8) (n z : Int) (hz : z = clampN n) (w : World) (hown : OwnB w base v L) (hl : L.length ≤ 1000000) (hbase : base ≤ w.heap.size) :
    Calls Try.prog 19 #[v, .int .i64 z] w fun e w' => ∃ v', e = .returned v' ∧ OwnB w' base v' (L ++ putN (clampN n)) ∧ Below base w w' := by
  rw [hz]
  exact putOne_any base v L _ (by have := clampN_le n; omega) w hown hl hbase
set_option maxHeartbeats 1000000 in
theorem put_any (B : Nat) (A : Option Addr) (c : Nat) (L : List UInt8) (A' : Option Addr) (c' : Nat) (l : List Int) (w : World) (h : BR w B A c L) (hr : Reads w A' l) (hL : L.length ≤ 10000) (hl : l.length ≤ 1000) :
    Calls Try.prog 9 #[.slice A L.length c, .slice A' l.length c'] w fun e w' => ∃ v, e = .returned v ∧ OwnB w' w.heap.size v (allN L l) ∧ Below w.heap.size w w' := by
  have R := Lib.hid hr; clear hr
  have H := Lib.hid h; clear h
  go_enter Try.func9, Try.ntmps9
  go_wp2_with fail
  refine (clone_any B A c L w H.out (by omega)).mono ?_; rintro e w1 ⟨v, rfl, hown, hb⟩
  have h0 : allN L (l.take 0) = L := by simp [allN]
  rw [← h0] at hown
  have H0 := Lib.hid h0; clear h0
  go_wp2_with fail
  go_loopw [5, 12] (fun b i wr => ∃ k : Nat, k ≤ l.length ∧ i = .int .i64 k ∧ OwnB wr w.heap.size b (allN L (l.take k)) ∧ Below w.heap.size w wr) (fun _ i _ => l.length - (intOf i).toNat)
  case atStart => exact ⟨0, Nat.zero_le _, rfl, hown, hb⟩
  case round =>
    obtain ⟨k, hk, rfl, hM, hB⟩ := hrel
    have hlen : (allN L (l.take k)).length ≤ 1000000 := by have := allN_len L (l.take k); rw [List.length_take] at this; omega
    by_cases hlt : k < l.length
    · obtain ⟨ad, rfl, hc⟩ := (R.out.below hB) k hlt
      have hs := allN_snoc L l hlt
      obtain ⟨z, hz⟩ : ∃ z, z = l[k] := ⟨_, rfl⟩
      rw [← hz] at hc hs
      clear hz
      have HS := Lib.hid hs; clear hs
      rcases (show z < 0 ∨ (0 ≤ z ∧ z ≤ 1073741823) ∨ (0 ≤ z ∧ 1073741823 < z) by omega) with hz | ⟨hz, hz2⟩ | ⟨hz, hz2⟩
      all_goals
        go_wp2_with fail
        refine (putOne_at w.heap.size _ _ z _ (by unfold clampN; omega) _ hM hlen hB.size).mono ?_; rintro e w2 ⟨v2, rfl, hown2, hb2⟩
        go_wp2_with fail
        go_roundw
        case rel => exact ⟨k + 1, by omega, by go_num, by rw [HS.out]; exact hown2, hB.trans hb2⟩
        case measure => simp [intOf]; omega
    · obtain rfl : k = l.length := by omega
      have ht : l.take l.length = l := List.take_length
      rw [ht] at hM
      clear ht
      go_wp2_with fail
      go_ret
      exact ⟨_, rfl, hM, hB⟩

/-! the reference -/
/-- A greatest one, as from 0 to m. -/
def cap (m t : Int) : Int := min (max t 0) m
theorem within_any (n h : Int) (hlh : 0 ≤ h) (w : World) : Calls Try.prog 25 #[.int .i64 n, .int .i64 0, .int .i64 h] w fun e w' => e = .returned (.int .i64 (cap h n)) ∧ w = w' := by
  unfold cap
  go_enter Try.func25, Try.ntmps25
  go_wp2
  all_goals go_ret
  all_goals exact ⟨ret_int (by omega), rfl⟩
theorem clampR_any (n : Int) (w : World) : Calls Try.prog 24 #[.int .i64 n, .int .i64 1073741823] w fun e w' => e = .returned (.int .i64 (clampN n)) ∧ w = w' := by
  have hz : cap 1099511627776 1073741823 = 1073741823 := by decide
  have hc : cap 1073741823 n = (clampN n : Int) := by unfold cap clampN; omega
  go_enter Try.func24, Try.ntmps24
  go_wp2_with fail
  refine (within_any _ _ (by decide) _).mono ?_; rintro e w' ⟨rfl, rfl⟩
  go_wp2_with fail
  refine (within_any _ _ (by decide) _).mono ?_; rintro e w' ⟨rfl, rfl⟩
  go_wp2_with fail
  go_ret
  exact ⟨rfl, rfl⟩
theorem clampR_is (n : Int) (x : Nat) (h : clampN n = x) (w : World) : Calls Try.prog 24 #[.int .i64 n, .int .i64 1073741823] w fun e w' => e = .returned (.int .i64 x) ∧ w = w' := h ▸ clampR_any n w
theorem clampN_nat {x : Nat} (h : x ≤ 1073741823) : clampN (x : Int) = x := by unfold clampN; omega
set_option maxHeartbeats 1000000 in
theorem putR_nat : ∀ (j : Nat) (n : Int) (x : Nat), clampN n = x → x < j → ∀ w : World,
    Calls Try.prog 20 #[.int .i64 n] w fun e w' => ∃ v, e = .returned v ∧ OwnB w' w.heap.size v (putN x) ∧ Below w.heap.size w w'
  | 0, _, _, _, h, _ => absurd h (Nat.not_lt_zero _)
  | j + 1, n, x, hx, hj, w => by
    have hle := clampN_le n
    rw [hx] at hle
    have X := Lib.hid hx; clear hx
    by_cases hlt : x < 128
    · have hu := u8_wrap_low (x := x) (by omega)
      have hd : decide ((x : Int) < 128) = true := by simp; omega
      have e := loB_lit hlt
      have E := Lib.hid e; clear e
      go_enter Try.func20, Try.ntmps20
      go_wp2_with fail
      refine (clampR_is n x X.out _).mono ?_; rintro e w' ⟨rfl, rfl⟩
      go_wp2_with fail
      go_ret
      exact ⟨_, rfl, by rw [put_lo hlt]; exact OwnB.lit _ _ (Nat.le_refl _) _ 1 rfl (by decide) _ E.out, below_alloc _ _⟩
    · have hd : decide ((x : Int) < 128) = false := by simp; omega
      go_enter Try.func20, Try.ntmps20
      go_wp2_with fail
      refine (clampR_is n x X.out _).mono ?_; rintro e w' ⟨rfl, rfl⟩
      go_wp2_with fail
      refine (putR_nat j ((x : Int) / 128) (x / 128) (by unfold clampN; omega) (by omega) _).mono ?_; rintro e w1 ⟨v, rfl, hown, hb⟩
      obtain ⟨A, c, rfl, hr⟩ := hown.reads
      have h1 := (OwnB.lit w w.heap.size (Nat.le_refl _) [hiB x] 1 rfl (by decide) #[.int .u8 (128 + (x : Int) % 128)] (hiB_lit' x)).below hb (Nat.le_refl _)
      have hp := putN_len5 (x := x / 128) (by omega)
      have hs := hb.size
      clear hown
      go_wp2_with (at_builtin; refine app_bytes rfl _ _ rfl w.heap.size _ [hiB x] rfl h1 _ A _ c (putN (x / 128)) rfl hr rfl ?c2 ?c3 ?_)
      case c2 => simp; omega
      case c3 => simp at hs; omega
      intro v' w' hown' hb'
      go_wp2_with fail
      go_ret
      exact ⟨_, rfl, by rw [put_hi (x := x) (by omega)]; exact hown', (below_alloc w _).trans ((hb.mono (by simp)).trans hb')⟩
theorem putR_any (n : Int) (w : World) : Calls Try.prog 20 #[.int .i64 n] w fun e w' => ∃ v, e = .returned v ∧ OwnB w' w.heap.size v (putN (clampN n)) ∧ Below w.heap.size w w' :=
  putR_nat _ n _ rfl (Nat.lt_succ_self _) w
set_option maxHeartbeats 1000000 in
theorem allR_any (B : Nat) (A : Option Addr) (c : Nat) (L : List UInt8) (A' : Option Addr) (c' : Nat) (l : List Int) (w : World) (h : BR w B A c L) (hr : Reads w A' l) (hL : L.length ≤ 10000) (hl : l.length ≤ 1000) :
    Calls Try.prog 10 #[.slice A L.length c, .slice A' l.length c'] w fun e w' => ∃ v, e = .returned v ∧ OwnB w' w.heap.size v (allN L l) ∧ Below w.heap.size w w' := by
  have R := Lib.hid hr; clear hr
  have H := Lib.hid h; clear h
  go_enter Try.func10, Try.ntmps10
  go_wp2_with (at_builtin; refine app_bytes rfl _ _ rfl w.heap.size _ [] rfl (OwnB.lit w w.heap.size (Nat.le_refl _) [] 0 rfl (Nat.zero_le _) #[] rfl) w.heap.size A _ c L rfl ?c1 rfl ?c2 ?c3 ?_)
  case c1 => exact H.out.here.below (below_alloc w _)
  case c2 => simp; omega
  case c3 => simp
  intro v w1 hown hb0
  have hb := (below_alloc w (.cells #[] 5)).trans hb0
  have h0 : allN L (l.take 0) = L := by simp [allN]
  rw [← h0] at hown
  have H0 := Lib.hid h0; clear h0 hb0
  go_wp2_with fail
  go_loopw [5, 6] (fun b i wr => ∃ k : Nat, k ≤ l.length ∧ i = .int .i64 k ∧ OwnB wr w.heap.size b (allN L (l.take k)) ∧ Below w.heap.size w wr) (fun _ i _ => l.length - (intOf i).toNat)
  case atStart => exact ⟨0, Nat.zero_le _, rfl, hown, hb⟩
  case round =>
    obtain ⟨k, hk, rfl, hM, hB⟩ := hrel
    have hlen : (allN L (l.take k)).length ≤ 1000000 := by have := allN_len L (l.take k); rw [List.length_take] at this; omega
    by_cases hlt : k < l.length
    · obtain ⟨ad, rfl, hc⟩ := (R.out.below hB) k hlt
      have hs := allN_snoc L l hlt
      obtain ⟨z, hz⟩ : ∃ z, z = l[k] := ⟨_, rfl⟩
      rw [← hz] at hc hs
      clear hz
      have HS := Lib.hid hs; clear hs
      have hp := putN_len5 (x := clampN z) (by have := clampN_le z; omega)
      go_wp2_with fail
      refine (putR_any z _).mono ?_; rintro e w2 ⟨v2, rfl, hown2, hb2⟩
      obtain ⟨A2, c2, rfl, hr2⟩ := hown2.reads
      have hM2 := hM.below hb2 (Nat.le_refl _)
      clear hM
      have hs2 := hb2.size
      have hs1 := hB.size
      go_wp2_with (at_builtin; refine app_bytes rfl _ _ rfl w.heap.size _ (allN L (l.take k)) rfl hM2 _ A2 _ c2 (putN (clampN z)) rfl hr2 rfl ?c4 ?c5 ?_)
      case c4 => omega
      case c5 => omega
      intro v3 w3 hown3 hb3
      go_wp2_with fail
      go_roundw
      case rel => exact ⟨k + 1, by omega, by go_num, by rw [HS.out]; exact hown3, hB.trans ((hb2.mono hs1).trans hb3)⟩
      case measure => simp [intOf]; omega
    · obtain rfl : k = l.length := by omega
      have ht : l.take l.length = l := List.take_length
      rw [ht] at hM
      clear ht
      go_wp2_with fail
      go_ret
      exact ⟨_, rfl, hM, hB⟩
/-- Are the bytes the same? -/
theorem same_any (B B' : Nat) (A A' : Option Addr) (c c' : Nat) (L M : List UInt8) (w : World) (h : BR w B A c L) (h' : BR w B' A' c' M) (b : Bool) (hb : (L == M) = b) :
    Calls Try.prog 8 #[.slice A L.length c, .slice A' M.length c'] w fun e w' => e = .returned (.bool b) ∧ w = w' := by
  have k1 := conv_str h
  have k2 := conv_str h'
  have HB := Lib.hid hb; clear hb
  go_enter Try.func8, Try.ntmps8
  go_wp2_with fail
  go_ret
  exact ⟨ret_bool HB.out, rfl⟩
end Go.Proofs.Ytgbbbokfdoeniaa
