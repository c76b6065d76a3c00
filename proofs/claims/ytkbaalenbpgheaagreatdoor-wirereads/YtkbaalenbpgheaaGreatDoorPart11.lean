/- Texts of this proof, one behind the other. -/
import Derived.Shelf.LaysM
import Derived.Shelf.Strings.SplitShaped
import Derived.Shelf.Strings.OnBuilder
import Derived.Shelf.Strings.Prefix
import Derived.Test.YtkbaalenbpgheaaGreatDoorPart10
/- The library's own functions at this program: Split, SplitN, Join, HasPrefix, ContainsFunc: the tables of numbers, and what each comes to. -/
namespace Go.Proofs.YtkbaalenbpgheaaGreatDoor
open Go.RowKit Go.Shelf
def laysSplitN_ren : Go.Shelf.Ren := ⟨fun | 147 => 124 | 221 => 154 | 268 => 176 | 138 => 177 | 143 => 178 | 195 => 188 | 197 => 189 | 218 => 190 | 219 => 191 | 260 => 196 | 217 => 197 | 225 => 198 | 224 => 199 | 267 => 200 | 266 => 202 | 314 => 203 | n => n, fun | 9 => 9 | 3 => 3 | 31 => 50 | 4 => 4 | 0 => 0 | 105 => 269 | 21 => 21 | 5 => 5 | 46 => 111 | 119 => 278 | 139 => 281 | 138 => 280 | 146 => 282 | 51 => 190 | n => n, fun | 1 => 2 | 3 => 4 | 4 => 5 | n => n⟩
theorem laysSplitN : Go.Proofs.LaysM.n147 Tryz.prog laysSplitN_ren := {
  mixed := by kernel_rfl
  f138 := Tryz.func177.trans (congrArg some (by kernel_rfl))
  f143 := Tryz.func178.trans (congrArg some (by kernel_rfl))
  f147 := Tryz.func124.trans (congrArg some (by kernel_rfl))
  f195 := Tryz.func188.trans (congrArg some (by kernel_rfl))
  f197 := Tryz.func189.trans (congrArg some (by kernel_rfl))
  f217 := Tryz.func197.trans (congrArg some (by kernel_rfl))
  f218 := Tryz.func190.trans (congrArg some (by kernel_rfl))
  f219 := Tryz.func191.trans (congrArg some (by kernel_rfl))
  f221 := Tryz.func154.trans (congrArg some (by kernel_rfl))
  f224 := Tryz.func199.trans (congrArg some (by kernel_rfl))
  f225 := Tryz.func198.trans (congrArg some (by kernel_rfl))
  f260 := Tryz.func196.trans (congrArg some (by kernel_rfl))
  f266 := Tryz.func202.trans (congrArg some (by kernel_rfl))
  f267 := Tryz.func200.trans (congrArg some (by kernel_rfl))
  f268 := Tryz.func176.trans (congrArg some (by kernel_rfl))
  f314 := Tryz.func203.trans (congrArg some (by kernel_rfl))
  t0 := Tryz.underlying0
  a0 := Tryz.isAgg0
  z0 := Tryz.sizeOf0
  v0 := Tryz.zeroValue0
  t3 := Tryz.underlying3
  a3 := Tryz.isAgg3
  z3 := Tryz.sizeOf3
  v3 := Tryz.zeroValue3
  t4 := Tryz.underlying4
  a4 := Tryz.isAgg4
  z4 := Tryz.sizeOf4
  v4 := Tryz.zeroValue4
  t5 := Tryz.underlying5
  a5 := Tryz.isAgg5
  z5 := Tryz.sizeOf5
  v5 := Tryz.zeroValue5
  t9 := Tryz.underlying9
  a9 := Tryz.isAgg9
  z9 := Tryz.sizeOf9
  v9 := Tryz.zeroValue9
  t21 := Tryz.underlying21
  a21 := Tryz.isAgg21
  z21 := Tryz.sizeOf21
  v21 := Tryz.zeroValue21
  t31 := Tryz.underlying50
  a31 := Tryz.isAgg50
  z31 := Tryz.sizeOf50
  v31 := Tryz.zeroValue50
  t46 := Tryz.underlying111
  a46 := Tryz.isAgg111
  z46 := Tryz.sizeOf111
  v46 := Tryz.zeroValue111
  t51 := Tryz.underlying190
  a51 := Tryz.isAgg190
  z51 := Tryz.sizeOf190
  v51 := Tryz.zeroValue190
  t105 := Tryz.underlying269
  a105 := Tryz.isAgg269
  z105 := Tryz.sizeOf269
  v105 := Tryz.zeroValue269
  t119 := Tryz.underlying278
  a119 := Tryz.isAgg278
  z119 := Tryz.sizeOf278
  t138 := Tryz.underlying280
  a138 := Tryz.isAgg280
  z138 := Tryz.sizeOf280
  v138 := Tryz.zeroValue280
  t139 := Tryz.underlying281
  a139 := Tryz.isAgg281
  z139 := Tryz.sizeOf281
  v139 := Tryz.zeroValue281
  t146 := Tryz.underlying282
  a146 := Tryz.isAgg282
  z146 := Tryz.sizeOf282
  v146 := Tryz.zeroValue282
  g1 := by kernel_rfl
  g3 := by kernel_rfl
  g4 := by kernel_rfl
  i0 := by kernel_rfl
  i3 := by kernel_rfl
  i4 := by kernel_rfl
  i5 := by kernel_rfl
  i9 := by kernel_rfl
  i21 := by kernel_rfl
  i31 := by kernel_rfl
  i46 := by kernel_rfl
  i51 := by kernel_rfl
  i105 := by kernel_rfl
  i138 := by kernel_rfl
  i139 := by kernel_rfl
  i146 := by kernel_rfl
  m1 := by kernel_rfl
  s1_3 := fun w h => Go.Proofs.cell_of_shapedOpen_int (zero := #[.int .i64 0]) (t := 3) h (of_decide_eq_true (by kernel_rfl)) (by kernel_rfl) rfl (by kernel_rfl) (by kernel_rfl) Tryz.underlying3
  m3 := by kernel_rfl
  m4 := by kernel_rfl }
def laysJoin_ren : Go.Shelf.Ren := ⟨fun | 156 => 98 | 165 => 135 | 166 => 136 | 169 => 137 | 240 => 162 | 241 => 163 | 276 => 180 | 277 => 181 | n => n, fun | 31 => 50 | 9 => 9 | 3 => 3 | 4 => 4 | 0 => 0 | 20 => 20 | 72 => 219 | 76 => 221 | 70 => 217 | 37 => 163 | 75 => 32 | 127 => 247 | 164 => 146 | 5 => 5 | 80 => 85 | n => n, fun | n => n⟩
theorem laysJoin : Go.Proofs.Lays.n156 Tryz.prog laysJoin_ren := {
  mixed := by kernel_rfl
  f156 := Tryz.func98.trans (congrArg some (by kernel_rfl))
  f165 := Tryz.func135.trans (congrArg some (by kernel_rfl))
  f166 := Tryz.func136.trans (congrArg some (by kernel_rfl))
  f169 := Tryz.func137.trans (congrArg some (by kernel_rfl))
  f240 := Tryz.func162.trans (congrArg some (by kernel_rfl))
  f241 := Tryz.func163.trans (congrArg some (by kernel_rfl))
  f276 := Tryz.func180.trans (congrArg some (by kernel_rfl))
  f277 := Tryz.func181.trans (congrArg some (by kernel_rfl))
  t0 := Tryz.underlying0
  a0 := Tryz.isAgg0
  z0 := Tryz.sizeOf0
  v0 := Tryz.zeroValue0
  t3 := Tryz.underlying3
  a3 := Tryz.isAgg3
  z3 := Tryz.sizeOf3
  v3 := Tryz.zeroValue3
  t4 := Tryz.underlying4
  a4 := Tryz.isAgg4
  z4 := Tryz.sizeOf4
  v4 := Tryz.zeroValue4
  t9 := Tryz.underlying9
  a9 := Tryz.isAgg9
  z9 := Tryz.sizeOf9
  v9 := Tryz.zeroValue9
  t20 := Tryz.underlying20
  a20 := Tryz.isAgg20
  z20 := Tryz.sizeOf20
  v20 := Tryz.zeroValue20
  t31 := Tryz.underlying50
  a31 := Tryz.isAgg50
  z31 := Tryz.sizeOf50
  v31 := Tryz.zeroValue50
  t37 := Tryz.underlying163
  a37 := Tryz.isAgg163
  z37 := Tryz.sizeOf163
  v37 := Tryz.zeroValue163
  t70 := Tryz.underlying217
  a70 := Tryz.isAgg217
  z70 := Tryz.sizeOf217
  v70 := Tryz.zeroValue217
  t72 := Tryz.underlying219
  a72 := Tryz.isAgg219
  z72 := Tryz.sizeOf219
  v72 := Tryz.zeroValue219
  t75 := Tryz.underlying32
  a75 := Tryz.isAgg32
  z75 := Tryz.sizeOf32
  v75 := Tryz.zeroValue32
  t76 := Tryz.underlying221
  a76 := Tryz.isAgg221
  z76 := Tryz.sizeOf221
  v76 := Tryz.zeroValue221
  t127 := Tryz.underlying247
  a127 := Tryz.isAgg247
  z127 := Tryz.sizeOf247
  v127 := Tryz.zeroValue247
  t164 := Tryz.underlying146
  a164 := Tryz.isAgg146
  z164 := Tryz.sizeOf146
  v164 := Tryz.zeroValue146 }
def laysContains_ren : Go.Shelf.Ren := ⟨fun | 17 => 143 | 15 => 164 | 20 => 182 | n => n, fun | 9 => 9 | 23 => 226 | 4 => 4 | 3 => 3 | 0 => 0 | 21 => 21 | n => n, fun | n => n⟩
theorem laysContains : Go.Proofs.LaysGw.n17 Tryz.prog laysContains_ren := {
  mixed := by kernel_rfl
  f15 := Tryz.func164.trans (congrArg some (by kernel_rfl))
  f17 := Tryz.func143.trans (congrArg some (by kernel_rfl))
  f20 := Tryz.func182.trans (congrArg some (by kernel_rfl))
  t0 := Tryz.underlying0
  a0 := Tryz.isAgg0
  z0 := Tryz.sizeOf0
  v0 := Tryz.zeroValue0
  i0 := by kernel_rfl
  t3 := Tryz.underlying3
  a3 := Tryz.isAgg3
  z3 := Tryz.sizeOf3
  v3 := Tryz.zeroValue3
  i3 := by kernel_rfl
  t4 := Tryz.underlying4
  a4 := Tryz.isAgg4
  z4 := Tryz.sizeOf4
  v4 := Tryz.zeroValue4
  i4 := by kernel_rfl
  t9 := Tryz.underlying9
  a9 := Tryz.isAgg9
  z9 := Tryz.sizeOf9
  v9 := Tryz.zeroValue9
  i9 := by kernel_rfl
  t21 := Tryz.underlying21
  a21 := Tryz.isAgg21
  z21 := Tryz.sizeOf21
  v21 := Tryz.zeroValue21
  i21 := by kernel_rfl
  t23 := Tryz.underlying226
  a23 := Tryz.isAgg226
  z23 := Tryz.sizeOf226
  v23 := Tryz.zeroValue226
  i23 := by kernel_rfl }
theorem laysJoin_extra : Builder.Extra Tryz.prog laysJoin_ren := {
  sizeBuilder := by kernel_rfl
  liesBuilder := by kernel_rfl
  t5 := Tryz.underlying5
  a5 := Tryz.isAgg5
  z5 := Tryz.sizeOf5
  v5 := Tryz.zeroValue5
  infoByte := by kernel_rfl
  cellsByte := by kernel_rfl
  sizeByte := by kernel_rfl
  neB5 := by decide }
/-- The library's own variable holds a number (whichever). -/
def TabM (w : World) : Prop := ∃ m : Int, w.cell? ⟨2, 0, none⟩ = some (.int .i64 m)
theorem TabM.lt {w : World} (h : TabM w) : 2 < w.heap.size := by obtain ⟨m, hm⟩ := h; exact block_lt_of_cell hm
theorem TabM.below {w w' : World} {B : Nat} (h : TabM w) (hb : Below B w w') (hB : 2 < B) : TabM w' := by
  obtain ⟨m, hm⟩ := h
  exact ⟨m, (hb.cell (p := ⟨2, 0, none⟩) hB).trans hm⟩
theorem splitN_any (s : ByteArray) (w : World) (hs : s.size ≤ 1000) (hM : TabM w) : Calls Tryz.prog 124 #[.string s, .string ⟨#[32]⟩, .int .i64 5] w fun e w' => e = .returned (.slice (some ⟨w.heap.size, 0, none⟩) (fiveB s).length (min 5 (s.size + 1))) ∧ w' = w.alloc (.cells (Lib.cellsOf (fiveB s) (min 5 (s.size + 1))) 9) := by
  obtain ⟨m, hm⟩ := hM
  exact Any.strings_SplitN (ρ := laysSplitN_ren) { laysSplitN with } laysSplitN.i9 s blankB 5 m w (by omega) hm (by decide) (by decide) (by decide)
theorem join_any (bk c : Nat) (xs : List ByteArray) (w : World) (hcells : ∀ (j : Nat) x, xs[j]? = some x → w.cell? ⟨bk, j, none⟩ = some (.string x)) (hbk : bk < w.heap.size) (hcap : xs.length ≤ c) (hc : c ≤ 1000)
    (hlen : (Lib.join (xs.map (·.data.toList)) [32]).length ≤ 1000000) :
    Calls Tryz.prog 98 #[.slice (some ⟨bk, 0, none⟩) xs.length c, .string ⟨#[32]⟩] w fun e w' => e = .returned (.string ⟨(Lib.join (xs.map (·.data.toList)) [32]).toArray⟩) ∧ Below w.heap.size w w' :=
  Any.strings_Join (ρ := laysJoin_ren) laysJoin laysJoin_extra bk 0 c xs blankB w (fun j x h => by rw [Nat.zero_add]; exact hcells j x h) hbk (by omega) hcap (Nat.le_trans hlen (by decide))
end Go.Proofs.YtkbaalenbpgheaaGreatDoor

/- Who may be called so: the program's own Name and the document's come to one answer, for every text. -/
namespace Go.Proofs.YtkbaalenbpgheaaGreatDoor
open Go.RowKit
attribute [local go_sem ↓] Go.wp_at_zero Go.wp_at_succ
set_option maxRecDepth 100000 in
set_option maxHeartbeats 1000000 in
theorem name_any (s : ByteArray) (w : World) : Calls Tryz.prog 102 #[.string s] w fun e w' => e = .returned (.bool (nameB s.data.toList)) ∧ w' = w := by
  obtain ⟨l, hl⟩ : ∃ l, l = s.data.toList := ⟨_, rfl⟩
  have hs : l.length = s.size := by rw [hl]; exact Array.length_toList
  rw [← hl]
  by_cases h1 : s.size < 1
  · have d1 : decide ((s.size : Int) < 1) = true := by simp; omega
    have hf : nameB l = false := by unfold nameB; rw [decide_eq_false (by omega)]; rfl
    rw [hf]
    go_enter Tryz.func102, Tryz.ntmps102
    go_wp2
    go_ret
    exact ⟨rfl, rfl⟩
  have d1 : decide ((s.size : Int) < 1) = false := by simp; omega
  by_cases h2 : 10 < s.size
  · have d2 : decide ((10 : Int) < (s.size : Int)) = true := by simp; omega
    have hf : nameB l = false := by unfold nameB; rw [decide_eq_false (p := l.length ≤ 10) (by omega)]; simp
    rw [hf]
    go_enter Tryz.func102, Tryz.ntmps102
    go_wp2
    go_ret
    exact ⟨rfl, rfl⟩
  have d2 : decide ((10 : Int) < (s.size : Int)) = false := by simp; omega
  have b0 : ∀ wx, (Instr.index 9 (.string s) (.int .i64 0)).run Tryz.prog wx = .ok (.int .u8 (((l.getD 0 0).toNat : Nat) : Int)) wx := fun wx => by rw [hl]; exact byte_get s 0 (by omega) wx
  have bk := hide (fun (k : Nat) (hk : k < s.size) wx => byte_get s k hk wx)
  rw [← hl] at bk
  clear hl
  by_cases h3 : letB (l.getD 0 0) = true
  · have L0 := hide (fun wx => letter_any (l.getD 0 0) wx)
    have o0 : okAt l 0 = true := by unfold okAt; rw [h3]; rfl
    have O0 := hide o0
    generalize l.getD 0 0 = c0 at b0 L0 h3
    rw [h3] at L0
    go_enter Tryz.func102, Tryz.ntmps102
    go_wp2_with (go_at_call 140; (with_reducible refine (L0.out _).mono ?_); rintro e w1 ⟨rfl, rfl⟩)
    clear L0 b0 d1 d2 h3
    go_loopw [20] (fun i wr => ∃ k : Nat, k ≤ s.size ∧ i = .int .i64 k ∧ wr = w1 ∧ Hid (∀ j, j < k → okAt l j = true)) (fun i _ => s.size - (intOf i).toNat)
    case atStart => exact ⟨0, by omega, rfl, rfl, hide fun j hj => absurd hj (by omega)⟩
    case round =>
      obtain ⟨k, hk, rfl, rfl, hall⟩ := hrel
      by_cases hlt : k < s.size
      · have i1 : (k : Int) < (s.size : Int) := by omega
        have b1 := fun wx => bk.out k hlt wx
        have L1 := hide (fun wx => letter_any (l.getD k 0) wx)
        have D1 := hide (fun wx => digit_any (l.getD k 0) wx)
        have hok : okAt l k = (letB (l.getD k 0) || (!decide (k = 0) && digB (l.getD k 0))) := rfl
        have HOK := hide hok
        clear hok bk
        generalize l.getD k 0 = c at b1 L1 D1 HOK
        cases e1 : letB c
        · rw [e1] at L1 HOK
          cases e2 : digB c
          · rw [e2] at D1 HOK
            go_wp2_with (first
              | (go_at_call 140; (with_reducible refine (L1.out _).mono ?_); rintro e w1 ⟨rfl, rfl⟩)
              | (go_at_call 141; (with_reducible refine (D1.out _).mono ?_); rintro e w1 ⟨rfl, rfl⟩))
            go_ret
            refine ⟨ret_val ?_, rfl⟩
            rw [nameB_bad (k := k) (by omega) (HOK.out.trans (by simp))]
            rfl
          · rw [e2] at D1 HOK
            go_wp2_with (first
              | (go_at_call 140; (with_reducible refine (L1.out _).mono ?_); rintro e w1 ⟨rfl, rfl⟩)
              | (go_at_call 141; (with_reducible refine (D1.out _).mono ?_); rintro e w1 ⟨rfl, rfl⟩))
            go_roundw
            case rel =>
              refine ⟨k + 1, by omega, by go_num, trivial, hide fun j hj => ?_⟩
              by_cases hj0 : j = 0
              · rw [hj0]; exact O0.out
              · by_cases hjk : j = k
                · rw [hjk]; exact HOK.out.trans (by rw [hjk] at hj0; simp [hj0])
                · exact hall.out j (by omega)
            case measure => simp [intOf]; omega
        · rw [e1] at L1 HOK
          go_wp2_with (go_at_call 140; (with_reducible refine (L1.out _).mono ?_); rintro e w1 ⟨rfl, rfl⟩)
          go_roundw
          case rel =>
            refine ⟨k + 1, by omega, by go_num, trivial, hide fun j hj => ?_⟩
            by_cases hjk : j = k
            · rw [hjk]; exact HOK.out
            · exact hall.out j (by omega)
          case measure => simp [intOf]; omega
      · have i1 : ¬ (k : Int) < (s.size : Int) := by omega
        have hkk : k = s.size := by omega
        go_wp2
        go_ret
        refine ⟨ret_val ?_, rfl⟩
        rw [nameB_all (fun j hj => hall.out j (by omega)), decide_eq_true (by omega), decide_eq_true (by omega)]
        rfl
  · have L0 := hide (fun wx => letter_any (l.getD 0 0) wx)
    have o0 : nameB l = false := nameB_bad (k := 0) (by omega) (by unfold okAt; simp only [Bool.not_eq_true] at h3; rw [h3]; rfl)
    simp only [Bool.not_eq_true] at h3
    rw [o0]
    generalize l.getD 0 0 = c0 at b0 L0 h3
    rw [h3] at L0
    clear bk
    go_enter Tryz.func102, Tryz.ntmps102
    go_wp2_with (go_at_call 140; (with_reducible refine (L0.out _).mono ?_); rintro e w1 ⟨rfl, rfl⟩)
    go_ret
    exact ⟨rfl, rfl⟩
end Go.Proofs.YtkbaalenbpgheaaGreatDoor

/- Which events may be: the program's own Right. -/
namespace Go.Proofs.YtkbaalenbpgheaaGreatDoor
open Go.RowKit
attribute [local go_sem ↓] Go.wp_at_zero Go.wp_at_succ
theorem toList_empty {s : ByteArray} {b : Bool} (h : s.data.toList.isEmpty = b) : s.toList.isEmpty = b := by rw [Lib.toList_data]; exact h
set_option maxRecDepth 100000 in
set_option maxHeartbeats 400000 in
theorem out_runes (w : World) : PredAtRunes Tryz.prog 142 #[] outP w := fun W r _ _ => by
  unfold FnGives encR outP
  by_cases h1 : r < 32
  · have d1 : decide ((r : Int) < 32) = true := by simp; omega
    go_enter Tryz.func142, Tryz.ntmps142
    go_wp2
    go_ret
    exact ⟨ret_val (by simp [h1]), 0, rfl⟩
  · have d1 : decide ((r : Int) < 32) = false := by simp; omega
    go_enter Tryz.func142, Tryz.ntmps142
    go_wp2
    go_ret
    exact ⟨ret_val (by simp [h1]; omega), 0, rfl⟩
theorem contains_any (v : ByteArray) (w : World) : Calls Tryz.prog 143 #[.string v, .func (.func 142) #[] #[]] w fun e w' => e = .returned (.bool (!v.data.toList.all inB)) ∧ Below w.heap.size w w' := by
  rw [← idx_in]
  exact Any.strings_ContainsFunc_runes (ρ := laysContains_ren) laysContains 142 #[] (enters_of Tryz.func142 (by kernel_rfl) rfl) outP v w (out_runes w)
set_option maxRecDepth 100000 in
set_option maxHeartbeats 400000 in
theorem rightValue_any (v : ByteArray) (w : World) : Calls Tryz.prog 104 #[.string v] w fun e w' => e = .returned (.bool (valB v.data.toList)) ∧ Below w.heap.size w w' := by
  have C := hide (contains_any v w)
  have hl : v.data.toList.length = v.size := Array.length_toList
  unfold valB
  rw [hl]
  generalize v.data.toList.all inB = b at C ⊢
  by_cases h1 : v.size ≤ 20
  · have d1 : decide ((v.size : Int) ≤ 20) = true := by simp; omega
    have d2 : decide (v.size ≤ 20) = true := decide_eq_true h1
    rw [d2]
    go_enter Tryz.func104, Tryz.ntmps104
    go_wp2_with (go_at_call 143; (with_reducible refine C.out.mono ?_); rintro e w1 ⟨rfl, hb⟩)
    go_ret
    exact ⟨ret_val (by simp), hb⟩
  · have d1 : decide ((v.size : Int) ≤ 20) = false := by simp; omega
    have d2 : decide (v.size ≤ 20) = false := decide_eq_false h1
    rw [d2]
    go_enter Tryz.func104, Tryz.ntmps104
    go_wp2
    go_ret
    exact ⟨rfl, Below.refl _ _⟩
set_option maxRecDepth 100000 in
set_option maxHeartbeats 400000 in
theorem rowNamed_any (k : Int) (s t r v : ByteArray) (w : World) : Calls Tryz.prog 103 #[.agg #[.int .i64 k, .string s, .string t, .string r, .string v]] w fun e w' => e = .returned (.bool (nameB t.data.toList && nameB r.data.toList)) ∧ Below w.heap.size w w' := by
  have T := hide (fun wx => name_any t wx)
  have R := hide (fun wx => name_any r wx)
  cases b1 : nameB t.data.toList
  · rw [b1] at T
    clear R b1
    go_enter Tryz.func103, Tryz.ntmps103
    go_wp2_with (go_at_call 102; (with_reducible refine (T.out _).mono ?_); rintro e w1 ⟨rfl, rfl⟩)
    go_ret
    exact ⟨rfl, (Below.refl _ w).alloc (Nat.le_refl _) _⟩
  · rw [b1] at T
    clear b1
    generalize nameB r.data.toList = b2 at R
    go_enter Tryz.func103, Tryz.ntmps103
    go_wp2_with (first
      | (go_at_call 102; (with_reducible refine (T.out _).mono ?_); rintro e w1 ⟨rfl, rfl⟩)
      | (go_at_call 102; (with_reducible refine (R.out _).mono ?_); rintro e w1 ⟨rfl, rfl⟩))
    go_ret
    exact ⟨ret_val (by simp), (Below.refl _ w).alloc (Nat.le_refl _) _⟩
set_option maxRecDepth 100000 in
set_option maxHeartbeats 1000000 in
theorem rightE_any (k : Int) (s t r v : ByteArray) (w : World) : Calls Tryz.prog 72 #[.agg #[.int .i64 k, .string s, .string t, .string r, .string v]] w fun e w' => e = .returned (.bool (rightB ⟨k, s, t, r, v⟩)) ∧ Below w.heap.size w w' := by
  have S := hide (fun wx => name_any s wx)
  have R := hide (fun wx => rowNamed_any k s t r v wx)
  have V := hide (fun wx => rightValue_any v wx)
  have hv := toList_empty (s := v) rfl
  have ht := toList_empty (s := t) rfl
  have hr := toList_empty (s := r) rfl
  unfold rightB bodyB rowNB
  simp only
  generalize (nameB t.data.toList && nameB r.data.toList) = bR at R ⊢
  generalize nameB s.data.toList = bS at S ⊢
  generalize valB v.data.toList = bV at V ⊢
  generalize v.data.toList.isEmpty = eV at hv ⊢
  generalize t.data.toList.isEmpty = eT at ht ⊢
  generalize r.data.toList.isEmpty = eR at hr ⊢
  have bel := (Below.refl _ w).alloc (Nat.le_refl _) (.cells #[.int .i64 k, .string s, .string t, .string r, .string v] 36)
  cases bS
  · clear R V
    rw [Bool.false_and]
    go_enter Tryz.func72, Tryz.ntmps72
    go_wp2_with (go_at_call 102; (with_reducible refine (S.out _).mono ?_); rintro e w1 ⟨rfl, rfl⟩)
    go_ret
    exact ⟨rfl, bel⟩
  by_cases h1 : k = 1
  · subst h1
    cases bR
    · clear V
      go_enter Tryz.func72, Tryz.ntmps72
      go_wp2_with (first
        | (go_at_call 102; (with_reducible refine (S.out _).mono ?_); rintro e w1 ⟨rfl, rfl⟩)
        | (go_at_call 103; (with_reducible refine (R.out _).mono ?_); rintro e w1 ⟨rfl, hb1⟩))
      go_ret
      exact ⟨rfl, bel.trans (hb1.mono (by simp))⟩
    · go_enter Tryz.func72, Tryz.ntmps72
      go_wp2_with (first
        | (go_at_call 102; (with_reducible refine (S.out _).mono ?_); rintro e w1 ⟨rfl, rfl⟩)
        | (go_at_call 103; (with_reducible refine (R.out _).mono ?_); rintro e w1 ⟨rfl, hb1⟩; have c4 : w1.cell? ⟨w.heap.size, 4, none⟩ = some (.string v) := (hb1.cell (p := ⟨w.heap.size, 4, none⟩) (by simp)).trans (by simp); have l1 : w.heap.size ≤ w1.heap.size := Nat.le_trans (by simp) hb1.size)
        | (go_at_call 104; (with_reducible refine (V.out _).mono ?_); rintro e w2 ⟨rfl, hb2⟩))
      go_ret
      exact ⟨ret_val (by simp), (bel.trans (hb1.mono (by simp))).trans (hb2.mono l1)⟩
  have n1 : (k == 1) = false := by simp; omega
  rw [if_neg h1]
  by_cases h2 : k = 2
  · subst h2
    clear V
    cases bR
    · go_enter Tryz.func72, Tryz.ntmps72
      go_wp2_with (first
        | (go_at_call 102; (with_reducible refine (S.out _).mono ?_); rintro e w1 ⟨rfl, rfl⟩)
        | (go_at_call 103; (with_reducible refine (R.out _).mono ?_); rintro e w1 ⟨rfl, hb1⟩))
      go_ret
      exact ⟨rfl, bel.trans (hb1.mono (by simp))⟩
    · go_enter Tryz.func72, Tryz.ntmps72
      go_wp2_with (first
        | (go_at_call 102; (with_reducible refine (S.out _).mono ?_); rintro e w1 ⟨rfl, rfl⟩)
        | (go_at_call 103; (with_reducible refine (R.out _).mono ?_); rintro e w1 ⟨rfl, hb1⟩; have c4 : w1.cell? ⟨w.heap.size, 4, none⟩ = some (.string v) := (hb1.cell (p := ⟨w.heap.size, 4, none⟩) (by simp)).trans (by simp)))
      go_ret
      exact ⟨ret_val (by simp), bel.trans (hb1.mono (by simp))⟩
  have n2 : (k == 2) = false := by simp; omega
  rw [if_neg h2]
  clear R V
  by_cases h3 : k = 3
  · subst h3
    cases eT <;> cases eR <;> cases eV <;>
    · go_enter Tryz.func72, Tryz.ntmps72
      go_wp2_with (go_at_call 102; (with_reducible refine (S.out _).mono ?_); rintro e w1 ⟨rfl, rfl⟩)
      go_ret
      exact ⟨ret_val (by simp), bel⟩
  · have n3 : (k == 3) = false := by simp; omega
    rw [if_neg h3]
    go_enter Tryz.func72, Tryz.ntmps72
    go_wp2_with (go_at_call 102; (with_reducible refine (S.out _).mono ?_); rintro e w1 ⟨rfl, rfl⟩)
    go_ret
    exact ⟨ret_val (by simp), bel⟩
end Go.Proofs.YtkbaalenbpgheaaGreatDoor
