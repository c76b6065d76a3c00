/- Texts of this proof, one behind the other. -/
import Derived.Shelf.GgClosure.StringsRunes
import Derived.Shelf.LaysM
import Derived.Shelf.Strings.SplitShaped
import Derived.Shelf.Strings.OnBuilder
import Derived.Shelf.Strings.Prefix
import Derived.Test.YtdjpghgnjcmdnaaGreatDoorPart8
/- A text's runes and its bytes: some rune is outside of what a value may have just where some byte is. -/
namespace Go.Proofs.YtdjpghgnjcmdnaaGreatDoor
open Go.Lib
/-- A rune outside of what a value may have. -/
def outP (x : Nat) : Bool := decide (x < 32) || decide (126 < x)
theorem decode_low (s : ByteArray) (i : Nat) (h : (s.get! i).toNat < 128) : Utf8.decode s i = ((s.get! i).toNat, 1) := by
  unfold Utf8.decode
  simp only [Nat.add_zero]
  rw [if_pos h]
theorem decode_high (s : ByteArray) (i : Nat) (h : 128 ≤ (s.get! i).toNat) : 128 ≤ (Utf8.decode s i).1 := by
  unfold Utf8.decode
  simp only [Nat.add_zero]
  rw [if_neg (by omega)]
  have hr : 128 ≤ Utf8.runeError := by decide
  split
  · split
    · simp only; omega
    · exact hr
  · split
    · split
      · rename_i h1
        simp only [Bool.and_eq_true, decide_eq_true_eq] at h1
        simp only; omega
      · exact hr
    · split
      · split
        · rename_i h1
          simp only [Bool.and_eq_true, decide_eq_true_eq] at h1
          simp only; omega
        · exact hr
      · exact hr
theorem get_data (s : ByteArray) (i : Nat) : s.get! i = s.data.toList.getD i 0 := by
  cases s with
  | mk a =>
    show a[i]! = _
    rw [List.getD_eq_getElem?_getD, Array.getElem?_toList]
    by_cases h : i < a.size
    · rw [getElem!_pos a i h, Array.getElem?_eq_getElem h]; rfl
    · rw [getElem!_neg a i h, Array.getElem?_eq_none (by show a.size ≤ i; omega)]; rfl
theorem idx_from (s : ByteArray) : ∀ (f pos : Nat), s.size ≤ pos + f → decide (0 ≤ idxFuncFrom outP true s f pos) = !(s.data.toList.drop pos).all inB
  | 0, pos, h => by
    rw [List.drop_of_length_le (by rw [← size_eq]; omega)]
    rfl
  | f + 1, pos, h => by
    by_cases hp : pos < s.size
    · have hl : pos < s.data.toList.length := by rw [← size_eq]; exact hp
      have hd : s.data.toList.drop pos = s.get! pos :: s.data.toList.drop (pos + 1) := by
        rw [List.drop_eq_getElem_cons hl, get_data, List.getD_eq_getElem?_getD, List.getElem?_eq_getElem hl]; rfl
      rw [hd, List.all_cons, idxFuncFrom, if_pos hp]
      by_cases hlow : (s.get! pos).toNat < 128
      · rw [decode_low s pos hlow]
        simp only
        by_cases hin : inB (s.get! pos) = true
        · have ho : outP (s.get! pos).toNat = false := by
            unfold inB at hin
            simp only [Bool.and_eq_true, decide_eq_true_eq] at hin
            unfold outP
            rw [decide_eq_false (by omega), decide_eq_false (by omega)]; rfl
          rw [ho, if_neg (by decide), hin, Bool.true_and]
          exact idx_from s f (pos + 1) (by omega)
        · have ho : outP (s.get! pos).toNat = true := by
            unfold inB at hin
            simp only [Bool.and_eq_true, decide_eq_true_eq] at hin
            unfold outP
            by_cases h1 : (s.get! pos).toNat < 32
            · rw [decide_eq_true h1]; rfl
            · rw [decide_eq_true (p := 126 < _) (by omega), Bool.or_true]
          rw [ho, if_pos rfl, eq_false_of_ne_true hin]
          simp
      · have h1 := decode_high s pos (by omega)
        have ho : outP (Utf8.decode s pos).1 = true := by unfold outP; rw [decide_eq_true (p := 126 < _) (by omega), Bool.or_true]
        have hin : inB (s.get! pos) = false := by unfold inB; rw [decide_eq_false (p := _ ≤ 126) (by omega), Bool.and_false]
        rw [ho, if_pos rfl, hin]
        simp
    · rw [idxFuncFrom, if_neg hp, List.drop_of_length_le (by rw [← size_eq]; omega)]
      rfl
/-- Some rune of a text is outside, just where some byte is. -/
theorem idx_in (s : ByteArray) : decide (0 ≤ idxFunc outP true s) = !s.data.toList.all inB := idx_from s s.size 0 (by omega)
end Go.Proofs.YtdjpghgnjcmdnaaGreatDoor

/- The library's own functions at this program: Split, SplitN, Join, HasPrefix, ContainsFunc: the tables of numbers, and what each comes to. -/
namespace Go.Proofs.YtdjpghgnjcmdnaaGreatDoor
open Go.RowKit Go.Shelf
def laysSplitN_ren : Go.Shelf.Ren := ⟨fun | 147 => 113 | 221 => 150 | 268 => 199 | 138 => 158 | 143 => 103 | 195 => 205 | 197 => 102 | 218 => 206 | 219 => 139 | 260 => 138 | 217 => 186 | 225 => 187 | 224 => 188 | 267 => 189 | 266 => 222 | 314 => 223 | n => n, fun | 9 => 9 | 3 => 3 | 31 => 61 | 4 => 4 | 0 => 0 | 105 => 157 | 21 => 21 | 5 => 5 | 46 => 139 | 119 => 248 | 139 => 251 | 138 => 250 | 146 => 292 | 51 => 149 | n => n, fun | 1 => 6 | 3 => 4 | 4 => 5 | n => n⟩
theorem laysSplitN : Go.Proofs.LaysM.n147 Tryz.prog laysSplitN_ren := {
  mixed := by kernel_rfl
  f138 := Tryz.func158.trans (congrArg some (by kernel_rfl))
  f143 := Tryz.func103.trans (congrArg some (by kernel_rfl))
  f147 := Tryz.func113.trans (congrArg some (by kernel_rfl))
  f195 := Tryz.func205.trans (congrArg some (by kernel_rfl))
  f197 := Tryz.func102.trans (congrArg some (by kernel_rfl))
  f217 := Tryz.func186.trans (congrArg some (by kernel_rfl))
  f218 := Tryz.func206.trans (congrArg some (by kernel_rfl))
  f219 := Tryz.func139.trans (congrArg some (by kernel_rfl))
  f221 := Tryz.func150.trans (congrArg some (by kernel_rfl))
  f224 := Tryz.func188.trans (congrArg some (by kernel_rfl))
  f225 := Tryz.func187.trans (congrArg some (by kernel_rfl))
  f260 := Tryz.func138.trans (congrArg some (by kernel_rfl))
  f266 := Tryz.func222.trans (congrArg some (by kernel_rfl))
  f267 := Tryz.func189.trans (congrArg some (by kernel_rfl))
  f268 := Tryz.func199.trans (congrArg some (by kernel_rfl))
  f314 := Tryz.func223.trans (congrArg some (by kernel_rfl))
  t0 := Tryz.underlying0
  a0 := Tryz.isAgg0
  z0 := Tryz.sizeOf0
  v0 := Tryz.zeroValue0
  t3 := Tryz.underlying3
  a3 := Tryz.isAgg3
  z3 := Tryz.sizeOf3
  v3 := Tryz.zeroValue3
  t4 := Tryz.underlying4
  a4 := Tryz.isAgg4
  z4 := Tryz.sizeOf4
  v4 := Tryz.zeroValue4
  t5 := Tryz.underlying5
  a5 := Tryz.isAgg5
  z5 := Tryz.sizeOf5
  v5 := Tryz.zeroValue5
  t9 := Tryz.underlying9
  a9 := Tryz.isAgg9
  z9 := Tryz.sizeOf9
  v9 := Tryz.zeroValue9
  t21 := Tryz.underlying21
  a21 := Tryz.isAgg21
  z21 := Tryz.sizeOf21
  v21 := Tryz.zeroValue21
  t31 := Tryz.underlying61
  a31 := Tryz.isAgg61
  z31 := Tryz.sizeOf61
  v31 := Tryz.zeroValue61
  t46 := Tryz.underlying139
  a46 := Tryz.isAgg139
  z46 := Tryz.sizeOf139
  v46 := Tryz.zeroValue139
  t51 := Tryz.underlying149
  a51 := Tryz.isAgg149
  z51 := Tryz.sizeOf149
  v51 := Tryz.zeroValue149
  t105 := Tryz.underlying157
  a105 := Tryz.isAgg157
  z105 := Tryz.sizeOf157
  v105 := Tryz.zeroValue157
  t119 := Tryz.underlying248
  a119 := Tryz.isAgg248
  z119 := Tryz.sizeOf248
  t138 := Tryz.underlying250
  a138 := Tryz.isAgg250
  z138 := Tryz.sizeOf250
  v138 := Tryz.zeroValue250
  t139 := Tryz.underlying251
  a139 := Tryz.isAgg251
  z139 := Tryz.sizeOf251
  v139 := Tryz.zeroValue251
  t146 := Tryz.underlying292
  a146 := Tryz.isAgg292
  z146 := Tryz.sizeOf292
  v146 := Tryz.zeroValue292
  g1 := by kernel_rfl
  g3 := by kernel_rfl
  g4 := by kernel_rfl
  i0 := by kernel_rfl
  i3 := by kernel_rfl
  i4 := by kernel_rfl
  i5 := by kernel_rfl
  i9 := by kernel_rfl
  i21 := by kernel_rfl
  i31 := by kernel_rfl
  i46 := by kernel_rfl
  i51 := by kernel_rfl
  i105 := by kernel_rfl
  i138 := by kernel_rfl
  i139 := by kernel_rfl
  i146 := by kernel_rfl
  m1 := by kernel_rfl
  s1_3 := fun w h => Go.Proofs.cell_of_shapedOpen_int (zero := #[.int .i64 0]) (t := 3) h (of_decide_eq_true (by kernel_rfl)) (by kernel_rfl) rfl (by kernel_rfl) (by kernel_rfl) Tryz.underlying3
  m3 := by kernel_rfl
  m4 := by kernel_rfl }
def laysJoin_ren : Go.Shelf.Ren := ⟨fun | 156 => 38 | 165 => 73 | 166 => 9 | 169 => 11 | 240 => 33 | 241 => 107 | 276 => 71 | 277 => 142 | n => n, fun | 31 => 61 | 9 => 9 | 3 => 3 | 4 => 4 | 0 => 0 | 20 => 20 | 72 => 40 | 76 => 46 | 70 => 37 | 37 => 38 | 75 => 45 | 127 => 66 | 164 => 116 | 5 => 5 | 80 => 48 | n => n, fun | n => n⟩
theorem laysJoin : Go.Proofs.Lays.n156 Tryz.prog laysJoin_ren := {
  mixed := by kernel_rfl
  f156 := Tryz.func38.trans (congrArg some (by kernel_rfl))
  f165 := Tryz.func73.trans (congrArg some (by kernel_rfl))
  f166 := Tryz.func9.trans (congrArg some (by kernel_rfl))
  f169 := Tryz.func11.trans (congrArg some (by kernel_rfl))
  f240 := Tryz.func33.trans (congrArg some (by kernel_rfl))
  f241 := Tryz.func107.trans (congrArg some (by kernel_rfl))
  f276 := Tryz.func71.trans (congrArg some (by kernel_rfl))
  f277 := Tryz.func142.trans (congrArg some (by kernel_rfl))
  t0 := Tryz.underlying0
  a0 := Tryz.isAgg0
  z0 := Tryz.sizeOf0
  v0 := Tryz.zeroValue0
  t3 := Tryz.underlying3
  a3 := Tryz.isAgg3
  z3 := Tryz.sizeOf3
  v3 := Tryz.zeroValue3
  t4 := Tryz.underlying4
  a4 := Tryz.isAgg4
  z4 := Tryz.sizeOf4
  v4 := Tryz.zeroValue4
  t9 := Tryz.underlying9
  a9 := Tryz.isAgg9
  z9 := Tryz.sizeOf9
  v9 := Tryz.zeroValue9
  t20 := Tryz.underlying20
  a20 := Tryz.isAgg20
  z20 := Tryz.sizeOf20
  v20 := Tryz.zeroValue20
  t31 := Tryz.underlying61
  a31 := Tryz.isAgg61
  z31 := Tryz.sizeOf61
  v31 := Tryz.zeroValue61
  t37 := Tryz.underlying38
  a37 := Tryz.isAgg38
  z37 := Tryz.sizeOf38
  v37 := Tryz.zeroValue38
  t70 := Tryz.underlying37
  a70 := Tryz.isAgg37
  z70 := Tryz.sizeOf37
  v70 := Tryz.zeroValue37
  t72 := Tryz.underlying40
  a72 := Tryz.isAgg40
  z72 := Tryz.sizeOf40
  v72 := Tryz.zeroValue40
  t75 := Tryz.underlying45
  a75 := Tryz.isAgg45
  z75 := Tryz.sizeOf45
  v75 := Tryz.zeroValue45
  t76 := Tryz.underlying46
  a76 := Tryz.isAgg46
  z76 := Tryz.sizeOf46
  v76 := Tryz.zeroValue46
  t127 := Tryz.underlying66
  a127 := Tryz.isAgg66
  z127 := Tryz.sizeOf66
  v127 := Tryz.zeroValue66
  t164 := Tryz.underlying116
  a164 := Tryz.isAgg116
  z164 := Tryz.sizeOf116
  v164 := Tryz.zeroValue116 }
def laysContains_ren : Go.Shelf.Ren := ⟨fun | 17 => 198 | 15 => 228 | 20 => 238 | n => n, fun | 9 => 9 | 23 => 63 | 4 => 4 | 3 => 3 | 0 => 0 | 21 => 21 | n => n, fun | n => n⟩
theorem laysContains : Go.Proofs.LaysGw.n17 Tryz.prog laysContains_ren := {
  mixed := by kernel_rfl
  f15 := Tryz.func228.trans (congrArg some (by kernel_rfl))
  f17 := Tryz.func198.trans (congrArg some (by kernel_rfl))
  f20 := Tryz.func238.trans (congrArg some (by kernel_rfl))
  t0 := Tryz.underlying0
  a0 := Tryz.isAgg0
  z0 := Tryz.sizeOf0
  v0 := Tryz.zeroValue0
  i0 := by kernel_rfl
  t3 := Tryz.underlying3
  a3 := Tryz.isAgg3
  z3 := Tryz.sizeOf3
  v3 := Tryz.zeroValue3
  i3 := by kernel_rfl
  t4 := Tryz.underlying4
  a4 := Tryz.isAgg4
  z4 := Tryz.sizeOf4
  v4 := Tryz.zeroValue4
  i4 := by kernel_rfl
  t9 := Tryz.underlying9
  a9 := Tryz.isAgg9
  z9 := Tryz.sizeOf9
  v9 := Tryz.zeroValue9
  i9 := by kernel_rfl
  t21 := Tryz.underlying21
  a21 := Tryz.isAgg21
  z21 := Tryz.sizeOf21
  v21 := Tryz.zeroValue21
  i21 := by kernel_rfl
  t23 := Tryz.underlying63
  a23 := Tryz.isAgg63
  z23 := Tryz.sizeOf63
  v23 := Tryz.zeroValue63
  i23 := by kernel_rfl }
theorem laysJoin_extra : Builder.Extra Tryz.prog laysJoin_ren := {
  sizeBuilder := by kernel_rfl
  liesBuilder := by kernel_rfl
  t5 := Tryz.underlying5
  a5 := Tryz.isAgg5
  z5 := Tryz.sizeOf5
  v5 := Tryz.zeroValue5
  infoByte := by kernel_rfl
  cellsByte := by kernel_rfl
  sizeByte := by kernel_rfl
  neB5 := by decide }
/-- The library's own variable holds a number (whichever). -/
def TabM (w : World) : Prop := ∃ m : Int, w.cell? ⟨6, 0, none⟩ = some (.int .i64 m)
theorem TabM.lt {w : World} (h : TabM w) : 6 < w.heap.size := by obtain ⟨m, hm⟩ := h; exact block_lt_of_cell hm
theorem TabM.below {w w' : World} {B : Nat} (h : TabM w) (hb : Below B w w') (hB : 6 < B) : TabM w' := by
  obtain ⟨m, hm⟩ := h
  exact ⟨m, (hb.cell (p := ⟨6, 0, none⟩) hB).trans hm⟩
theorem splitN_any (s : ByteArray) (w : World) (hs : s.size ≤ 1000) (hM : TabM w) : Calls Tryz.prog 113 #[.string s, .string ⟨#[32]⟩, .int .i64 5] w fun e w' => e = .returned (.slice (some ⟨w.heap.size, 0, none⟩) (fiveB s).length (min 5 (s.size + 1))) ∧ w' = w.alloc (.cells (Lib.cellsOf (fiveB s) (min 5 (s.size + 1))) 9) := by
  obtain ⟨m, hm⟩ := hM
  exact Any.strings_SplitN (ρ := laysSplitN_ren) { laysSplitN with } laysSplitN.i9 s blankB 5 m w (by omega) hm (by decide) (by decide) (by decide)
theorem join_any (bk c : Nat) (xs : List ByteArray) (w : World) (hcells : ∀ (j : Nat) x, xs[j]? = some x → w.cell? ⟨bk, j, none⟩ = some (.string x)) (hbk : bk < w.heap.size) (hcap : xs.length ≤ c) (hc : c ≤ 1000)
    (hlen : (Lib.join (xs.map (·.data.toList)) [32]).length ≤ 1000000) :
    Calls Tryz.prog 38 #[.slice (some ⟨bk, 0, none⟩) xs.length c, .string ⟨#[32]⟩] w fun e w' => e = .returned (.string ⟨(Lib.join (xs.map (·.data.toList)) [32]).toArray⟩) ∧ Below w.heap.size w w' :=
  Any.strings_Join (ρ := laysJoin_ren) laysJoin laysJoin_extra bk 0 c xs blankB w (fun j x h => by rw [Nat.zero_add]; exact hcells j x h) hbk (by omega) hcap (Nat.le_trans hlen (by decide))
end Go.Proofs.YtdjpghgnjcmdnaaGreatDoor

/- A text told line by line: the library's iterator. -/
namespace Go.Proofs.YtdjpghgnjcmdnaaGreatDoor
open Go.RowKit Go.Shelf
attribute [local go_sem] Oper.semAt_some
/-- Where the first line feed stands. -/
theorem idx_cut : ∀ rest : List UInt8, (Lib.index rest [10] = -1 ∧ cutN rest = [rest]) ∨ ∃ x r, rest = x ++ 10 :: r ∧ Lib.index rest [10] = (x.length : Int) ∧ cutN rest = x :: cutN r
  | [] => .inl ⟨rfl, rfl⟩
  | c :: l => by
    by_cases h : c = 10
    · subst h
      exact .inr ⟨[], l, rfl, by unfold Lib.index; simp, cutN_nl l⟩
    · have hp : List.isPrefixOf [10] (c :: l) = false := by
        simp [List.isPrefixOf]
        exact fun e => h e.symm
      rcases idx_cut l with ⟨h1, h2⟩ | ⟨x, r, rfl, h1, h2⟩
      · refine .inl ⟨?_, cutN_cons h _ _ _ h2⟩
        unfold Lib.index
        rw [if_neg (by rw [hp]; decide), h1]
        rfl
      · refine .inr ⟨c :: x, r, rfl, ?_, cutN_cons h _ _ _ h2⟩
        unfold Lib.index
        rw [if_neg (by rw [hp]; decide), h1, if_neg (by simp <;> omega)]
        simp
/-- What a round keeps: all that lies below, and the iterator's own boxes. -/
def KpL (n₀ Bp Bs Bv : Nat) (W W' : World) : Prop := Below n₀ W W' ∧ W'.heap[Bp]? = W.heap[Bp]? ∧ W'.heap[Bs]? = W.heap[Bs]? ∧ W'.heap[Bv]? = W.heap[Bv]?
theorem KpL.t {n₀ Bp Bs Bv : Nat} {A B C : World} (h : KpL n₀ Bp Bs Bv A B) (k : KpL n₀ Bp Bs Bv B C) : KpL n₀ Bp Bs Bv A C := ⟨h.1.trans k.1, k.2.1.trans h.2.1, k.2.2.1.trans h.2.2.1, k.2.2.2.trans h.2.2.2⟩
/-- A line of a session's. -/
structure Ln where
  val : List UInt8
  ok : val.length ≤ 30000
def valsL (xs : List Ln) : List (List UInt8) := xs.map Ln.val
theorem valsL_snoc (xs : List Ln) (x : Ln) : valsL (xs ++ [x]) = valsL xs ++ [x.val] := by simp [valsL]
def lineV (x : Ln) : Array Value := #[.string (textL x.val)]
def boxSize (B : Nat) (w : World) : Nat := match w.cell? ⟨B, 0, none⟩ with
  | some (.string s) => s.size
  | _ => 0
theorem boxSize_of {w : World} {B : Nat} {s : ByteArray} (h : Boxed w B 9 (.string s)) : boxSize B w = s.size := by
  unfold boxSize
  rw [h.cell]
theorem textL_take (x r : List UInt8) : (textL (x ++ r)).extract 0 x.length = textL x := by
  apply ByteArray.ext
  apply Array.toList_inj.1
  rw [ByteArray.data_extract, Array.toList_extract]
  simp [textL, List.extract]
theorem textL_drop (x r : List UInt8) : (textL (x ++ 10 :: r)).extract (x.length + 1) (x ++ 10 :: r).length = textL r := by
  apply ByteArray.ext
  apply Array.toList_inj.1
  rw [ByteArray.data_extract, Array.toList_extract]
  simp [textL, List.extract]
  exact List.take_of_length_le (by omega)
theorem wrap_nat (n : Nat) (h : n ≤ 100000) : wrap64 (n : Int) = (n : Int) := by unfold wrap64; omega
theorem wrap_nat1 (n : Nat) (h : n ≤ 100000) : wrap64 ((n : Int) + 1) = (n : Int) + 1 := by unfold wrap64; omega
theorem len_step {pre : List Ln} {x r : List UInt8} {n : Nat} (hx : x.length ≤ 30000) (h : pre.length + (x ++ 10 :: r).length ≤ n) : (pre ++ [(⟨x, hx⟩ : Ln)]).length + r.length ≤ n := by
  simp at h ⊢
  omega
theorem app_step (pre : List Ln) (x : Ln) (l : List (List UInt8)) : valsL (pre ++ [x]) ++ l = valsL pre ++ x.val :: l := by simp [valsL]
theorem slice_from (S T : ByteArray) (k : Nat) (h : k + 1 ≤ S.size) (hd : S.extract (k + 1) S.size = T) (w : World) : (Instr.slice 9 (.string S) (some (.int .i64 ((k : Int) + 1))) none none).run Tryz.prog w = .ok (.string T) w := by
  have h2 := run_slice_string_l (P := Tryz.prog) w 9 S Tryz.underlying9 .i64 ((k : Int) + 1) (by omega) (by omega)
  rw [h2, show ((k : Int) + 1).toNat = k + 1 by omega, hd]
set_option maxRecDepth 100000 in
set_option maxHeartbeats 2000000 in
theorem lines_seq (n : Nat) (hn : 1 ≤ n) (Bp Bs Bv n₀ : Nat) (l : List UInt8) (hl : l.length ≤ 30000) (w : World) (hne1 : Bs ≠ Bp) (hne2 : Bs ≠ Bv) (hBs : n₀ ≤ Bs) (h6 : 6 < n₀) (hn₀ : n₀ ≤ w.heap.size) (hM : TabM w) (bp : Boxed w Bp 9 (.string ⟨#[10]⟩)) (bs : Boxed w Bs 9 (.string (textL l))) (bv : Boxed w Bv 3 (.int .i64 0)) :
    BoxSeq Fence.wide n Tryz.prog 101 #[.pointer (some ⟨Bp, 0, none⟩), .pointer (some ⟨Bs, 0, none⟩), .pointer (some ⟨Bv, 0, none⟩)] lineV (KpL n₀ Bp Bs Bv) (fun xs => valsL xs = cutN l) (l.length + 1) Bs w := fun lp J W hW hJb hY h0 => by
  have hM0 : TabM W := hM.below hW (by omega)
  have hB7 : 7 ≤ Bs := by omega
  have bp0 : Boxed W Bp 9 (.string ⟨#[10]⟩) := (hW.block Bp bp.lt).trans bp
  have bs0 : Boxed W Bs 9 (.string (textL l)) := (hW.block Bs bs.lt).trans bs
  have bv0 : Boxed W Bv 3 (.int .i64 0) := (hW.block Bv bv.lt).trans bv
  have cp := bp0.cell
  refine callsIn_of_wp Tryz.func101 rfl trivial ?_ rfl
  simp only [Tryz.ntmps101, List.size_toArray, List.length_cons, List.length_nil, Nat.reduceAdd, Nat.reduceSub, Array.replicate_succ, Array.replicate_zero, List.push_toArray, List.append_toArray, List.nil_append, List.cons_append]
  gi_wp2
  gi_loopw [] (fun wr => ∃ (pre : List Ln) (rest : List UInt8), valsL pre ++ cutN rest = cutN l ∧ pre.length + rest.length ≤ l.length ∧ J pre wr ∧ TabM wr ∧ Boxed wr Bp 9 (.string ⟨#[10]⟩) ∧ Boxed wr Bs 9 (.string (textL rest)) ∧ Boxed wr Bv 3 (.int .i64 0))
    (fun wr => boxSize Bs wr)
  case atStart => exact ⟨[], l, rfl, by simp, h0, hM0, bp0, bs0, bv0⟩
  case round =>
    clear cp bp0 bs0 bv0 hM0
    obtain ⟨pre, rest, hc, hlen, hJs, hMs, bps, bss, bvs⟩ := hrel
    have cp := bps.cell
    have cs := bss.cell
    have cv := bvs.cell
    have hsz : (textL rest).size = rest.length := rfl
    have hsp : (⟨#[10]⟩ : ByteArray).size = 1 := rfl
    have IX := fun wx (hM : TabM wx) => hM.elim fun m hm => (callsIn_wide (n := n - 1)).2 (Any.strings_Index dLays143 (textL rest) ⟨#[10]⟩ m wx (by rw [hsz]; omega) hm)
    rcases idx_cut rest with ⟨i1, i2⟩ | ⟨x, r, hx, i1, i2⟩
    · have hr3 : rest.length ≤ 30000 := Nat.le_trans (Nat.le_trans (Nat.le_add_left _ _) hlen) hl
      obtain ⟨fn, tmps, assign, body, hy, hR⟩ := hY pre ⟨rest, hr3⟩ wr hJs (by omega)
      unfold lineV at hy
      rw [show Lib.index (textL rest).data.toList (⟨#[10]⟩ : ByteArray).data.toList = -1 from i1] at IX
      gi_wp2_with (refine ⟨trivial, ?_⟩; gi_at_call 103; refine (IX wr hMs).mono ?_; rintro y w2 ⟨rfl, rfl⟩)
      refine hR.mono ?_
      rintro e W3 ⟨rfl, hJ4, hk⟩
      gi_wp2
      go_end0
      exact ⟨⟨_, rfl⟩, pre ++ [⟨rest, hr3⟩], by rw [valsL_snoc, ← hc, i2], hJ4⟩
    · subst hx
      have hx3 : x.length ≤ 30000 := by have := Nat.le_trans (Nat.le_trans (Nat.le_add_left _ _) hlen) hl; simp at this; omega
      obtain ⟨fn, tmps, assign, body, hy, hR⟩ := hY pre ⟨x, hx3⟩ wr hJs (by omega)
      unfold lineV at hy
      rw [show Lib.index (textL (x ++ 10 :: r)).data.toList (⟨#[10]⟩ : ByteArray).data.toList = (x.length : Int) from i1] at IX
      have ht := textL_take x (10 :: r)
      have hd := textL_drop x r
      have hl2 : (x ++ 10 :: r).length = x.length + 1 + r.length := by simp; omega
      have hle : x.length + 1 ≤ (textL (x ++ 10 :: r)).size := by rw [hsz, hl2]; omega
      rw [← hsz] at hd
      have HL := hide hlen
      have HC := hide hc
      have BS := hide bss
      have HZ := hide (hsz.trans hl2)
      have hk3 : x.length ≤ 30000 := by rw [hl2] at hlen; omega
      clear hlen hc hsz hl2 bss
      generalize hTT : textL (x ++ 10 :: r) = TT at IX cs hle ht hd BS HZ ⊢
      have HT := hide hTT
      have HX : Hid (∃ k, x.length = k) := hide ⟨_, rfl⟩
      clear hTT
      have g1 : ¬ (x.length : Int) < 0 := by omega
      have g2 := wrap_nat x.length (by omega)
      have g4 : (x.length : Int) ≤ (TT.size : Int) := by omega
      have HD := hide hd
      have HE := hide hle
      have HK := hide hk3
      clear hd hle hk3
      generalize x.length = k at IX ht g1 g2 g4 HD HE HZ HK
      gi_wp2_with (refine ⟨trivial, ?_⟩; gi_at_call 103; refine (IX wr hMs).mono ?_; rintro y w2 ⟨rfl, rfl⟩)
      refine hR.mono ?_
      rintro e W3 ⟨rfl, hJ4, hk⟩
      have bp3 : Boxed W3 Bp 9 (.string ⟨#[10]⟩) := hk.2.1.trans bps
      have bs3 : Boxed W3 Bs 9 (.string TT) := hk.2.2.1.trans BS.out
      have bv3 : Boxed W3 Bv 3 (.int .i64 0) := hk.2.2.2.trans bvs
      have cp3 := bp3.cell
      have cs3 := bs3.cell
      have fs3 := bs3.frozen
      have hM3 := hMs.below hk.1 h6
      have g3 := wrap_nat1 k (Nat.le_trans HK.out (by decide))
      have hsl := slice_from TT (textL r) k HE.out HD.out
      have hJ5 := hide (hJb (pre ++ [⟨x, hx3⟩]) W3 (.string (textL r)) hJ4)
      clear hJ4 hk ht g4
      gi_wp2
      go_roundw
      case rel =>
        refine ⟨pre ++ [⟨x, hx3⟩], r, (app_step pre ⟨x, hx3⟩ (cutN r)).trans (by rw [← i2]; exact HC.out), len_step hx3 HL.out, hJ5.out, hM3.below ((Below.refl 7 W3).setCell (p := ⟨Bs, 0, none⟩) hB7 _) (by decide), bp3.other (Ne.symm hne1) _, bs3.set _, bv3.other (Ne.symm hne2) _⟩
      case measure =>
        rw [boxSize_of BS.out, boxSize_of (bs3.set (.string (textL r)))]
        have hr : (textL r).size = r.length := rfl
        rw [hr, HZ.out]
        exact Nat.lt_of_lt_of_le (Nat.lt_succ_self r.length) (by rw [Nat.add_comm k 1, Nat.add_assoc, Nat.add_comm 1]; exact Nat.succ_le_succ (Nat.le_add_left _ _))
end Go.Proofs.YtdjpghgnjcmdnaaGreatDoor

/- The words of a line, what is told to be answered, and more of the library as a session calls it. -/
namespace Go.Proofs.YtdjpghgnjcmdnaaGreatDoor
open Go.RowKit Go.Shelf Go.Sort
attribute [local go_sem ↓] Go.wp_at_zero Go.wp_at_succ
/-- Is a rune a blank? -/
def blankR (r : Nat) : Bool := (r : Int) == 32
set_option maxRecDepth 100000 in
theorem blank_any (r : Nat) (w : World) : Calls Tryz.prog 36 #[.int .i32 (r : Int)] w fun e w' => e = .returned (.bool (blankR r)) ∧ w' = w := by
  unfold blankR
  go_enter Tryz.func36, Tryz.ntmps36
  go_wp2
  go_ret
  exact ⟨rfl, rfl⟩
/-- A line's words. -/
def wordsB (s : ByteArray) : List ByteArray := Lib.goFieldsP blankR s
theorem trim_any (l : List UInt8) (hl : l.length ≤ 30000) (w : World) : Calls Tryz.prog 32 #[.string (textL l), .string ⟨#[10]⟩] w fun e w' => e = .returned (.string (textL (Lib.trimSuffix l [10]))) ∧ w' = w :=
  Any.strings_TrimSuffix dLays102 (textL l) ⟨#[10]⟩ w (by show l.length ≤ _; omega)
theorem fields_any (s : ByteArray) (hs : s.size ≤ 30000) (w : World) : Calls Tryz.prog 35 #[.string s, .func (.func 36) #[] #[]] w fun e w' => ∃ g, e = .returned (.slice (some ⟨g, 0, none⟩) (wordsB s).length (wordsB s).length) ∧ w.heap.size ≤ g ∧ w'.ownsRow w.heap.size 9 1 (.slice (some ⟨g, 0, none⟩) (wordsB s).length (wordsB s).length) (wordsB s).length ((wordsB s).map Value.string) ∧ Below w.heap.size w w' :=
  Any.strings_FieldsFunc_runes dLays229 36 #[] (enters_of Tryz.func36 (by kernel_rfl) rfl) blankR s w (by omega) (fun W x _ _ => (blank_any x W).mono fun _ _ ⟨he, hw⟩ => ⟨he, 0, hw⟩) (by kernel_rfl) (by kernel_rfl)
/-- What was thrown, as it is told. -/
def wrongB (n : Int) : ByteArray := textL (toldL ⟨#[101, 114, 114, 111, 114]⟩ [textL (Lib.itoa n)])
theorem asErr (n : Int) (w : World) : (Instr.typeAssert (.iface 25 (.int .i64 n)) 20 25 true).run Tryz.prog w = .ok (.tuple #[.int .i64 n, .bool true]) w := by kernel_rfl
set_option maxRecDepth 100000 in
set_option maxHeartbeats 1000000 in
theorem wrong_any (n : Int) (h0 : 0 ≤ n) (h1 : n ≤ 100) (w : World) (hP : Pow w) : Calls Tryz.prog 5 #[.iface 25 (.int .i64 n)] w fun e w' => e = .returned (.string (wrongB n)) ∧ Below w.heap.size w w' := by
  have IT := hide (itoa_any n ⟨by omega, by omega⟩ w hP)
  have hlen : (Lib.itoa n).length ≤ 50 := by
    have : ∀ k : Nat, k ≤ 100 → (Lib.itoa (k : Int)).length ≤ 50 := by decide +kernel
    obtain ⟨k, rfl⟩ : ∃ k : Nat, n = (k : Int) := ⟨n.toNat, by omega⟩
    exact this k (by omega)
  have TE := hide (fun (v : Value) wx (hp : Parts wx v [textL (Lib.itoa n)]) => tell_any ⟨#[101, 114, 114, 111, 114]⟩ v [textL (Lib.itoa n)] wx hp (by simp) (by
    unfold toldL Lib.join
    simp [textL, List.intercalate]
    omega))
  have hw : textL (toldL ⟨#[101, 114, 114, 111, 114]⟩ [textL (Lib.itoa n)]) = wrongB n := rfl
  rw [hw] at TE
  have AE := asErr
  generalize wrongB n = R at TE ⊢
  generalize textL (Lib.itoa n) = X at IT TE
  clear hlen hw hP
  go_enter Tryz.func5, Tryz.ntmps5
  go_wp2_with (first
    | (go_at_call 13; (with_reducible refine IT.out.mono ?_); rintro y w1 ⟨rfl, hb⟩; have B1 := hide hb; have B2 := hide (hb.alloc hb.size (.cells #[.string X] 9)); have T1 := hide (TE.out (.slice (some ⟨w1.heap.size, 0, none⟩) 1 1) (w1.alloc (.cells #[.string X] 9)) ⟨_, _, rfl, .inr ⟨w1.heap.size, 0, rfl, by simp, fun k hk => by (have hk0 : k = 0 := by (simp at hk; omega)); subst hk0; exact (HasR.new w1 9 #[.string X]).cell 0⟩⟩); clear hb)
    | (go_at_call 12; (with_reducible refine T1.out.mono ?_); rintro y w3 ⟨rfl, hb3⟩; have B3 := hide (B2.out.trans (hb3.mono B2.out.size)); clear hb3))
  go_ret
  exact ⟨rfl, B3.out⟩
end Go.Proofs.YtdjpghgnjcmdnaaGreatDoor
