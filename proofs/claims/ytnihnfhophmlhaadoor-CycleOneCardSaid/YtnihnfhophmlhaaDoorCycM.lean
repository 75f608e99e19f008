/- Contracts of cycle's calls that make memory: Zeros, Text, Parse. Own work. -/
import Derived.Test.YtnihnfhophmlhaaDoorCycP
import Derived.Laws.BytesArg
namespace Go.Proofs.YtnihnfhophmlhaaDoor
open Go.ChangeShapes Go.WideShapes Go.ChangeAt Go.RowKit Cyc

theorem infoU8 : (Tryd.prog.info? 5).map (fun i => (i.zero, i.size, i.bytes)) = some (some (.int .u8 0), 1, 1) := by kernel_rfl
/-- n numbers 0, as cells. -/
def zeroCells (k : Nat) : Array Value := ((List.replicate k 0).map (Value.int .i64)).toArray
theorem made_zeros (k : Nat) : madeCells (Value.int .i64 0).cells (k * 1) = zeroCells k := by
  apply Array.ext
  · simp [madeCells, zeroCells]
  · intro i h1 h2
    simp [madeCells, zeroCells, Value.cells, Nat.mod_one]
theorem zeros_run (k : Nat) (hk : k ≤ 8) (w : World) : (Instr.makeSlice 22 (.int .i64 (k : Int)) (.int .i64 (k : Int))).run Tryd.prog w = .ok (.slice (some ⟨w.heap.size, 0, none⟩) k k) (w.alloc (.cells (zeroCells k) 3)) := by
  obtain ⟨i0, hi, hz0, hz1, hz2⟩ := info_parts infoInt
  have := run_make (P := Tryd.prog) w 22 3 i0 (.int .i64 0) Tryd.underlying22 hi hz0 .i64 .i64 k k (by omega) (by omega) (by rw [hz2]; omega) (by omega)
  rw [hz1, show ((k : Int)).toNat = k from rfl, made_zeros] at this
  exact this
theorem zeros_is (n : Int) (k : Nat) (hk : min (max n 0) 8 = (k : Int)) (w : World) :
    Calls Tryd.prog 7 #[.int .i64 n] w fun e w' => e = .returned (.slice (some ⟨w.heap.size, 0, none⟩) k k) ∧ w' = w.alloc (.cells (zeroCells k) 3) := by
  by_cases h0 : n < 0
  · obtain rfl : k = 0 := by omega
    have hrun : ∀ w : World, (Instr.makeSlice 22 (.int .i64 0) (.int .i64 0)).run Tryd.prog w = .ok (.slice (some ⟨w.heap.size, 0, none⟩) 0 0) (w.alloc (.cells (zeroCells 0) 3)) := zeros_run 0 (by decide)
    clear hk
    go_enter Tryd.func7, Tryd.ntmps7
    go_wp2_with fail
    go_ret
    exact ⟨rfl, rfl⟩
  · by_cases h8 : 8 < n
    · obtain rfl : k = 8 := by omega
      have h1 : 0 ≤ n := by omega
      have hrun : ∀ w : World, (Instr.makeSlice 22 (.int .i64 8) (.int .i64 8)).run Tryd.prog w = .ok (.slice (some ⟨w.heap.size, 0, none⟩) 8 8) (w.alloc (.cells (zeroCells 8) 3)) := zeros_run 8 (by decide)
      clear hk
      go_enter Tryd.func7, Tryd.ntmps7
      go_wp2_with fail
      go_ret
      exact ⟨rfl, rfl⟩
    · obtain rfl : n = (k : Int) := by omega
      have h2 : (k : Int) ≤ 8 := by omega
      have hrun := zeros_run k (by omega)
      clear hk
      go_enter Tryd.func7, Tryd.ntmps7
      go_wp2_with fail
      go_ret
      exact ⟨rfl, rfl⟩
theorem zeros_ri (w : World) (k : Nat) (hk : k ≤ 8) : RI (w.alloc (.cells (zeroCells k) 3)) (some ⟨w.heap.size, 0, none⟩) k (List.replicate k 0) :=
  (Blk.new w 3 (zeroCells k)).ints (by simp) (by unfold maxLen; omega)

/-! Text -/
def byteV (c : UInt8) : Value := .int .u8 (c.toNat : Int)
def zeroBytes (k : Nat) : Array Value := ((List.replicate k 0).map byteV).toArray
theorem made_bytes (k : Nat) : madeCells (Value.int .u8 0).cells (k * 1) = zeroBytes k := by
  apply Array.ext
  · simp [madeCells, zeroBytes]
  · intro i h1 h2
    simp [madeCells, zeroBytes, Value.cells, Nat.mod_one, byteV]
theorem bytes_run (k : Nat) (hk : k ≤ 8) (w : World) : (Instr.makeSlice 41 (.int .i64 (k : Int)) (.int .i64 (k : Int))).run Tryd.prog w = .ok (.slice (some ⟨w.heap.size, 0, none⟩) k k) (w.alloc (.cells (zeroBytes k) 5)) := by
  obtain ⟨i0, hi, hz0, hz1, hz2⟩ := info_parts infoU8
  have := run_make (P := Tryd.prog) w 41 5 i0 (.int .u8 0) Tryd.underlying41 hi hz0 .i64 .i64 k k (by omega) (by omega) (by rw [hz2]; omega) (by omega)
  rw [hz1, show ((k : Int)).toNat = k from rfl, made_bytes] at this
  exact this
/-- string(b), of a block known whole. -/
theorem blk_str {w : World} {g n : Nat} {L : List UInt8} (h : Blk w g 5 (L.map byteV).toArray) (hn : L.length = n) {T : ByteArray} (hT : T = ⟨L.toArray⟩) :
    (convert 41 9 (.slice (some ⟨g, 0, none⟩) n n)).run Tryd.prog w = .ok (.string T) w := by
  subst hn; subst hT
  rw [run_convert_bytes_string w _ _ _ _ _ _ Tryd.underlying41 Tryd.underlying5 Tryd.underlying9]
  have hl : (loadCells ⟨g, 0, none⟩ L.length).run Tryd.prog w = .ok ((L.map fun c => (c.toNat : Int)).map (Value.int .u8)).toArray w := by
    have := run_loadCells_list (P := Tryd.prog) w ⟨g, 0, none⟩ ((L.map fun c => (c.toNat : Int)).map (Value.int .u8)) (fun j v hj => by
      have e : (⟨g, 0, none⟩ : Addr).add j = ⟨g, j, none⟩ := by unfold Addr.add; split <;> simp_all
      rw [e, h.cell]
      simpa [byteV, Function.comp_def] using hj)
    simpa using this
  rw [run_bytesToString w _ _ _ _ hl, foldl_push_bytes]
  congr 2
  ext1
  simp [ByteArray.empty, ByteArray.emptyWithCapacity, List.map_map, Function.comp_def]
  rfl
/-- The bytes behind k rounds. -/
def textC (l : List Int) (k : Nat) : List UInt8 := (l.take k).map dig ++ List.replicate (l.length - k) 0
theorem textC_zero (l : List Int) : ((textC l 0).map byteV).toArray = zeroBytes l.length := by unfold textC zeroBytes; simp
theorem textC_end (l : List Int) : textC l l.length = l.map dig := by unfold textC; simp
theorem textC_len {l : List Int} {k : Nat} (hk : k ≤ l.length) : (textC l k).length = l.length := by unfold textC; simp; omega
theorem textC_step {l : List Int} {k : Nat} (hk : k < l.length) : ((textC l k).map byteV).toArray.setIfInBounds k (byteV (dig l[k])) = ((textC l (k + 1)).map byteV).toArray := by
  unfold textC
  rw [List.setIfInBounds_toArray, ← List.map_set, List.set_append_right _ _ (by simp; omega), List.take_succ_eq_append_getElem hk]
  have e : l.length - k = (l.length - (k + 1)) + 1 := by omega
  rw [e, List.replicate_succ]
  simp
  have : k - min k l.length = 0 := by omega
  rw [this, List.set_cons_zero, List.take_succ_eq_append_getElem (by simpa using hk)]; simp
theorem dig_byte {d : Int} (h0 : 0 ≤ d) (h1 : d < 3) : byteV (dig d) = .int .u8 (48 + d) := by
  obtain rfl | rfl | rfl : d = 0 ∨ d = 1 ∨ d = 2 := by omega
  all_goals rfl
set_option maxHeartbeats 400000 in
theorem text_is (A : Option Addr) (c n : Nat) (l : List Int) (hn : l.length = n) (w : World) (hr : RI w A c l) (T : List UInt8) (hT : textL l = T) :
    Calls Tryd.prog 17 #[.slice A n c] w fun e w' => e = .returned (.string ⟨T.toArray⟩) ∧ Below w.heap.size w w' := by
  subst hn
  have R := Lib.hid hr; clear hr
  cases hf : fineL l
  · obtain rfl : T = [] := by rw [← hT, textL_bad hf]
    have F := Lib.hid hf; clear hf hT
    go_enter Tryd.func17, Tryd.ntmps17
    go_wp2_with fail
    refine (fine_is A c _ l rfl _ R.out false F.out).mono ?_; rintro e w' ⟨rfl, rfl⟩
    go_wp2_with fail
    go_ret
    exact ⟨rfl, Below.refl _ _⟩
  · by_cases h0 : l = []
    · subst h0
      obtain rfl : T = [45] := by rw [← hT]; rfl
      have F := Lib.hid hf; clear hf hT
      go_enter Tryd.func17, Tryd.ntmps17
      go_wp2_with fail
      refine (fine_is A c _ [] rfl _ R.out true F.out).mono ?_; rintro e w' ⟨rfl, rfl⟩
      go_wp2_with fail
      go_ret
      exact ⟨rfl, Below.refl _ _⟩
    · have h8 := fineL_len hf
      have hall := fineL_all hf
      have hT2 := textL_good hf h0
      rw [hT] at hT2
      have hpos : 0 < l.length := List.length_pos_iff.2 h0
      have hne : ((l.length : Int) == 0) = false := by simp; exact h0
      have hrun := bytes_run l.length h8
      have F := Lib.hid hf; clear hf hT h0
      have HA := Lib.hid hall; clear hall
      have HT := Lib.hid hT2; clear hT2
      go_enter Tryd.func17, Tryd.ntmps17
      go_wp2_with fail
      refine (fine_is A c _ l rfl _ R.out true F.out).mono ?_; rintro e w' ⟨rfl, rfl⟩
      go_wp2_with fail
      have hB0 := Lib.hid (below_alloc w (.cells (zeroBytes l.length) 5))
      have hK0 : Hid (Blk (w.alloc (.cells (zeroBytes l.length) 5)) w.heap.size 5 ((textC l 0).map byteV).toArray) := Lib.hid (by rw [textC_zero]; exact Blk.new w _ _)
      go_loopw [17] (fun i wr => ∃ k : Nat, k ≤ l.length ∧ i = .int .i64 k ∧ Hid (Blk wr w.heap.size 5 ((textC l k).map byteV).toArray) ∧ Hid (Below w.heap.size w wr)) (fun i _ => l.length - (intOf i).toNat)
      case atStart => exact ⟨0, by omega, rfl, hK0, hB0⟩
      case round =>
        obtain ⟨k, hk, rfl, hK, hB⟩ := hrel
        by_cases hlt : k < l.length
        · obtain ⟨ad, rfl, hc⟩ := (R.out.below hB.out).at_ hlt
          have hd := HA.out k hlt
          have hk2 := hK.out.set_ k (byteV (dig l[k]))
          rw [textC_step hlt, dig_byte hd.1 hd.2] at hk2
          have hK2 := Lib.hid hk2; clear hk2
          have hB2 := Lib.hid (hB.out.setCell (p := ⟨w.heap.size, k, none⟩) (Nat.le_refl _) (.int .u8 (48 + l[k])))
          have hfr := hK.out.frozen k
          have hcell := hK.out.cell k
          have hlc : k < (textC l k).length := by rw [textC_len hk]; exact hlt
          rw [List.getElem?_toArray, List.getElem?_map, List.getElem?_eq_getElem hlc, Option.map_some] at hcell
          generalize byteV (textC l k)[k] = old at hcell
          obtain ⟨h1, h2⟩ := hd
          clear hlc
          go_wp2_with fail
          go_roundw
          case rel => exact ⟨k + 1, by omega, by go_num, hK2, hB2⟩
          case measure => simp [intOf]; omega
        · obtain rfl : k = l.length := by omega
          have hk := hK.out
          rw [textC_end] at hk
          have hcv := blk_str hk (n := l.length) (by simp) (T := ⟨T.toArray⟩) (by rw [HT.out])
          clear hk
          go_wp2_with fail
          go_ret
          exact ⟨rfl, hB.out⟩

/-! Parse -/
/-- The numbers behind k rounds. -/
def numC' (s : List UInt8) (k : Nat) : List Int := numsL (s.take k) ++ List.replicate (s.length - k) 0
theorem numC_zero (s : List UInt8) : ((numC' s 0).map (Value.int .i64)).toArray = zeroCells s.length := by unfold numC' zeroCells numsL; simp
theorem numC_end (s : List UInt8) : numC' s s.length = numsL s := by unfold numC'; simp
theorem numC_len {s : List UInt8} {k : Nat} (hk : k ≤ s.length) : (numC' s k).length = s.length := by unfold numC' numsL; simp; omega
theorem numC_step {s : List UInt8} {k : Nat} (hk : k < s.length) : ((numC' s k).map (Value.int .i64)).toArray.setIfInBounds k (.int .i64 (numC s[k])) = ((numC' s (k + 1)).map (Value.int .i64)).toArray := by
  unfold numC' numsL
  rw [List.setIfInBounds_toArray, ← List.map_set, List.set_append_right _ _ (by simp; omega), List.take_succ_eq_append_getElem hk]
  have e : s.length - k = (s.length - (k + 1)) + 1 := by omega
  rw [e, List.replicate_succ]
  simp
  have : k - min k s.length = 0 := by omega
  rw [this, List.set_cons_zero, List.take_succ_eq_append_getElem (by simpa using hk)]; simp
theorem num_cell (s : List UInt8) (k : Nat) (_ : k < s.length) (h' : k < (⟨s.toArray⟩ : ByteArray).size) : wrap64 (wrap64 (((⟨s.toArray⟩ : ByteArray)[k]'h').toNat : Int) - 48) = numC s[k] := by
  have e : (⟨s.toArray⟩ : ByteArray)[k]'h' = s[k] := rfl
  rw [e]
  have := s[k].toNat_lt
  unfold numC wrap64; omega
/-- What Parse answers. -/
def Parsed (w : World) (s : List UInt8) (e : Ending) (w' : World) : Prop :=
  ∃ A c, e = .returned (.tuple #[.slice A (valP s).length c, .int .i64 (if okP s then 0 else 3)]) ∧ RI w' A c (valP s) ∧ Below w.heap.size w w'
theorem parsed_no {w w' : World} {s : List UInt8} (h : okP s = false) (hb : Below w.heap.size w w') : Parsed w s (.returned (.tuple #[.slice none 0 0, .int .i64 3])) w' :=
  ⟨none, 0, by rw [valP_bad h, h]; rfl, by rw [valP_bad h]; exact RI.nil _, hb⟩
set_option maxHeartbeats 400000 in
theorem parse_is (s : List UInt8) (w : World) (ht : s.length ≤ maxLen) : Calls Tryd.prog 19 #[.string ⟨s.toArray⟩] w (Parsed w s) := by
  unfold maxLen at ht
  by_cases h45 : s = [45]
  · subst h45
    have P0 : Parsed w [45] (.returned (.tuple #[.slice none 0 0, .int .i64 0])) w := ⟨none, 0, rfl, RI.nil _, Below.refl _ _⟩
    go_enter Tryd.func19, Tryd.ntmps19
    go_wp2_with fail
    go_ret2
    exact P0
  · by_cases h0 : s = []
    · subst h0
      have P0 := parsed_no (w := w) (w' := w) okP_nil (Below.refl _ _)
      go_enter Tryd.func19, Tryd.ntmps19
      go_wp2_with fail
      go_ret2
      exact P0
    · have e1 : (s == [45]) = false := by simpa using h45
      have e2 : s.isEmpty = false := by simpa using h0
      have e3 : (!s.isEmpty) = true := by simpa using h0
      by_cases h8 : 8 < s.length
      · have P0 := parsed_no (w := w) (w' := w) (okP_long h8) (Below.refl _ _)
        have h8' : (8 : Int) < s.length := by omega
        clear h45
        go_enter Tryd.func19, Tryd.ntmps19
        go_wp2_with fail
        go_ret2
        exact P0
      · have h8' : (s.length : Int) ≤ 8 := by omega
        have hz : min (max (s.length : Int) 0) 8 = (s.length : Int) := by omega
        have hok := okP_of h45 h0
        have hval := valP_of h45
        have OK := Lib.hid hok; clear hok
        have VAL := Lib.hid hval; clear hval
        have HZ := Lib.hid hz; clear hz
        clear h45
        go_enter Tryd.func19, Tryd.ntmps19
        go_wp2_with fail
        refine (zeros_is _ s.length HZ.out _).mono ?_; rintro e w' ⟨rfl, rfl⟩
        go_wp2_with fail
        have hB0 := Lib.hid (below_alloc w (.cells (zeroCells s.length) 3))
        have hK0 : Hid (Blk (w.alloc (.cells (zeroCells s.length) 3)) w.heap.size 3 ((numC' s 0).map (Value.int .i64)).toArray) := Lib.hid (by rw [numC_zero]; exact Blk.new w _ _)
        go_loopw [20] (fun i wr => ∃ k : Nat, k ≤ s.length ∧ i = .int .i64 k ∧ Hid (Blk wr w.heap.size 3 ((numC' s k).map (Value.int .i64)).toArray) ∧ Hid (Below w.heap.size w wr)) (fun i _ => s.length - (intOf i).toNat)
        case atStart => exact ⟨0, by omega, rfl, hK0, hB0⟩
        case round =>
          obtain ⟨k, hk, rfl, hK, hB⟩ := hrel
          by_cases hlt : k < s.length
          · have hk2 := hK.out.set_ k (.int .i64 (numC s[k]))
            rw [numC_step hlt] at hk2
            have hK2 := Lib.hid hk2; clear hk2
            have hB2 := Lib.hid (hB.out.setCell (p := ⟨w.heap.size, k, none⟩) (Nat.le_refl _) (.int .i64 (numC s[k])))
            have hfr := hK.out.frozen k
            have hcell := hK.out.cell k
            have hlc : k < (numC' s k).length := by rw [numC_len hk]; exact hlt
            rw [List.getElem?_toArray, List.getElem?_map, List.getElem?_eq_getElem hlc, Option.map_some] at hcell
            generalize (Value.int .i64 (numC' s k)[k]) = old at hcell
            clear hlc
            go_wp2_with fail
            go_roundw
            case rel => exact ⟨k + 1, by omega, by go_num, by rw [num_cell s k hlt]; exact hK2, by rw [num_cell s k hlt]; exact hB2⟩
            case measure => simp [intOf]; omega
          · obtain rfl : k = s.length := by omega
            have hk := hK.out
            rw [numC_end] at hk
            have hri := hk.ints (n := s.length) (by simp [numsL]) (by unfold maxLen; omega)
            have HR := Lib.hid hri; clear hri hk
            cases hf : fineL (numsL s)
            · have P0 := parsed_no (w := w) (w' := wr) (OK.out.trans hf) hB.out
              have FN := Lib.hid hf; clear hf
              go_wp2_with fail
              refine (fine_is _ _ _ (numsL s) (by simp [numsL]) _ HR.out false FN.out).mono ?_; rintro e w' ⟨rfl, rfl⟩
              go_wp2_with fail
              go_ret2
              exact P0
            · have P0 : Parsed w s (.returned (.tuple #[.slice (some ⟨w.heap.size, 0, none⟩) s.length s.length, .int .i64 0])) wr := by
                have ho := OK.out.trans hf
                have hv := VAL.out
                rw [ho, if_pos rfl] at hv
                exact ⟨some ⟨w.heap.size, 0, none⟩, s.length, by rw [hv, ho]; simp [numsL], by rw [hv]; exact HR.out, hB.out⟩
              have FN := Lib.hid hf; clear hf
              go_wp2_with fail
              refine (fine_is _ _ _ (numsL s) (by simp [numsL]) _ HR.out true FN.out).mono ?_; rintro e w' ⟨rfl, rfl⟩
              go_wp2_with fail
              go_ret2
              exact P0
end Go.Proofs.YtnihnfhophmlhaaDoor
