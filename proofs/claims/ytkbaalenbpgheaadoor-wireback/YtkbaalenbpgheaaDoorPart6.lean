/- Texts of this proof, one behind the other. -/
import Derived.Test.YtkbaalenbpgheaaDoorRows
import Derived.Test.YtkbaalenbpgheaaDoorCards
import Derived.Test.YtkbaalenbpgheaaDoorTie
import Derived.ProofKit
import Derived.LaidMore
import Derived.OpenShut
import Derived.Stop.Joined
import Derived.Stop.LaidErr
import Derived.LaidHandle
import Derived.Lib.LaidTab
import Derived.SevenTiedAt
import Derived.WalkKit
import Derived.WalkSpells
import Derived.WalkLawsBesides
import Derived.Test.YtkbaalenbpgheaaDoorPart5
/- The mark of texts: what the program's own 'Mark' comes to. -/
namespace Go.Proofs.YtkbaalenbpgheaaDoor
open Go.RowKit
/-- What is summed up: the kind, and of each text its size and itself. -/
def markTo (kind : UInt8) (ps : List ByteArray) (k : Nat) : List UInt8 := kind :: (ps.take k).flatMap fun p => num8 p.size ++ p.data.toList
theorem markTo_step (kind : UInt8) (ps : List ByteArray) (k : Nat) (h : k < ps.length) : markTo kind ps k ++ num8 (ps.getD k ByteArray.empty).size ++ (ps.getD k ByteArray.empty).data.toList = markTo kind ps (k + 1) := by
  have e : ps.take (k + 1) = ps.take k ++ [ps.getD k ByteArray.empty] := by
    rw [List.take_succ_eq_append_getElem h]
    simp [h]
  unfold markTo
  rw [e, List.flatMap_append]
  simp
theorem markTo_len (kind : UInt8) (ps : List ByteArray) (hp : ∀ p ∈ ps, p.size ≤ 20000) (k : Nat) : (markTo kind ps k).length ≤ 1 + 20008 * k := by
  have e : ∀ l : List ByteArray, (∀ p ∈ l, p.size ≤ 20000) → (l.flatMap fun p => num8 p.size ++ p.data.toList).length ≤ 20008 * l.length := by
    intro l
    induction l with
    | nil => intro _; simp
    | cons x r ih =>
      intro h
      have h1 := ih (fun p hp => h p (by simp [hp]))
      have h2 := h x (by simp)
      have h3 : x.data.toList.length = x.size := rfl
      simp only [List.flatMap_cons, List.length_append, num8_len, List.length_cons, h3]
      omega
  have h1 := e (ps.take k) (fun p hp' => hp p (List.mem_of_mem_take hp'))
  have h2 : (ps.take k).length ≤ k := List.length_take_le _ _
  unfold markTo
  simp only [List.length_cons]
  omega
/-- A slice of texts that came in. -/
def Parts (w : World) (v : Value) (ps : List ByteArray) : Prop :=
  ∃ ao cap, v = .slice ao ps.length cap ∧ (ps = [] ∨ ∃ b off, ao = some ⟨b, off, none⟩ ∧ b < w.heap.size ∧ ∀ k, k < ps.length → w.cell? ⟨b, off + k, none⟩ = some (.string (ps.getD k ByteArray.empty)))
theorem Parts.below {w w' : World} {v : Value} {ps : List ByteArray} {B : Nat} (h : Parts w v ps) (hb : Below B w w') (hB : B = w.heap.size) : Parts w' v ps := by
  obtain ⟨ao, cap, hv, h⟩ := h
  refine ⟨ao, cap, hv, ?_⟩
  rcases h with h | ⟨b, off, ha, hl, hc⟩
  · exact .inl h
  · refine .inr ⟨b, off, ha, by have := hb.size; omega, fun k hk => ?_⟩
    rw [hb.cell (p := ⟨b, off + k, none⟩) (by simp; omega)]
    exact hc k hk
set_option maxRecDepth 100000 in
set_option maxHeartbeats 1000000 in
theorem mark_any (kind : UInt8) (v : Value) (ps : List ByteArray) (w : World) (hP : Parts w v ps) (hn : ps.length ≤ 10) (hp : ∀ p ∈ ps, p.size ≤ 20000) (hK : TabK w) :
    Calls Tryd.prog 35 #[.int .u8 (kind.toNat : Int), v] w fun e w' => e = .returned (.string ((⟨(sha (markTo kind ps ps.length)).toArray⟩ : ByteArray).extract 0 16)) ∧ Below w.heap.size w w' := by
  obtain ⟨i5, hE⟩ := elemB
  have h0 := hK.lt
  obtain ⟨ao, cap0, rfl, hP⟩ := hP
  go_enter Tryd.func35, Tryd.ntmps35
  go_wp2
  go_loopw [5, 12] (fun t i wr => ∃ k g m cap : Nat, k ≤ ps.length ∧ i = .int .i64 k ∧ t = .slice (some ⟨g, 0, none⟩) m cap ∧ m ≤ 1 + 20008 * k ∧ BR wr w.heap.size 5 g m cap (bytesV (markTo kind ps k)) ∧ Below w.heap.size w wr)
    (fun _ i _ => ps.length - (intOf i).toNat)
  case atStart => exact ⟨0, w.heap.size, 1, 1, by omega, rfl, rfl, by omega, ⟨rfl, Nat.le_refl _, by omega, _, _, heap_alloc_new w _, rfl, rfl, .inl (Nat.le_refl _)⟩, (Below.refl _ _).alloc (Nat.le_refl _) _⟩
  case round =>
    obtain ⟨k, g, m, cap, hk, rfl, rfl, hm, hr, hb⟩ := hrel
    have hbs := hb.size
    by_cases hlt : k < ps.length
    · rcases hP with hP | ⟨b, off, rfl, hbl, hc⟩
      · rw [hP] at hlt; simp at hlt
      · have hck : wr.cell? ⟨b, off + k, none⟩ = some (.string (ps.getD k ByteArray.empty)) := by
          rw [hb.cell (p := ⟨b, off + k, none⟩) hbl]; exact hc k hlt
        have hst := hide (markTo_step kind ps k hlt)
        have hsz : (ps.getD k ByteArray.empty).size ≤ 20000 := by
          have : ps.getD k ByteArray.empty ∈ ps := by simp [hlt]
          exact hp _ this
        have hln := hide (markTo_len kind ps hp (k + 1))
        generalize ps.getD k ByteArray.empty = p at hck hst hsz
        clear hc hp
        go_wp2_with (first
          | (go_at_call 45; refine (appendNum_any w.heap.size _ m (markTo kind ps k) p.size _ (by omega) (BRn.of hr) (by omega) hbs).mono ?_; rintro e w1 ⟨g1, cap1, rfl, hr1, hb1⟩)
          | (at_builtin; refine append_str hE w.heap.size g1 (m + 8) cap1 (markTo kind ps k ++ num8 p.size) p rfl rfl hr1 (by omega) (by have := hb1.size; omega) ?_; intro g2 cap2 w2 hr2 hb2; rw [hst.out] at hr2))
        go_roundw
        case rel => exact ⟨k + 1, g2, m + 8 + p.size, cap2, by omega, by go_num, rfl, by have h1 := hr2.len; rw [bytesV_len] at h1; have h2 := hln.out; omega, hr2, hb.trans (hb1.trans hb2)⟩
        case measure => simp [intOf]; omega
    · obtain rfl : k = ps.length := by omega
      have hK' := hK.below hb h0
      have hl := markTo_len kind ps hp ps.length
      generalize hT : markTo kind ps ps.length = T at hr hl
      have HT := hide hT
      clear hT hP hp
      have hS := hide (sum_any ⟨T.toArray⟩ (by show T.length ≤ 800000; omega) wr hK')
      have hlen : (sha T).length = 32 := by
        unfold sha stBytes
        rfl
      generalize hSH : sha T = S at hS hlen
      have HSH := hide hSH
      clear hSH
      have hSs : (⟨S.toArray⟩ : ByteArray).size = 32 := hlen
      go_wp2_with (first
        | ((with_reducible refine conv_out g m cap T ?_ hr ?_); rfl)
        | (go_at_call 46; refine (hS.out).mono ?_; rintro e w1 ⟨rfl, hb1⟩))
      go_ret
      exact ⟨ret_val (by show Value.string ((⟨S.toArray⟩ : ByteArray).extract 0 16) = _; rw [HT.out, HSH.out]), hb.trans (hb1.mono hbs)⟩
end Go.Proofs.YtkbaalenbpgheaaDoor

/- What the listed variable gives the walks: the table of the sum; and a record that came in. -/
namespace Go.Proofs.YtkbaalenbpgheaaDoor
open Go.ChangeShapes Go.WideShapes Go.ChangeAt Go.RowKit
theorem own : ownKnob Tryd.prog.godebug = none := by kernel_rfl
theorem laidOut : laidOutB Tryd.prog = true := by kernel_rfl
/-- The table's name, as the row lists it. -/
def nameK : String := (Rows.wireBackRow.laid.map (·.1)).getD 0 ""
theorem gK : Tryd.prog.globalNamed nameK = some 1 := by kernel_rfl
theorem tK : (Tryd.prog.globals[1]?).map (·.type) = some 51 := by kernel_rfl
theorem c49 : Tryd.prog.cellsOf 49 = 1 := by kernel_rfl
theorem c51 : Tryd.prog.cellsOf 51 = 64 := by kernel_rfl
theorem c23 : Tryd.prog.cellsOf 23 = 5 := by kernel_rfl
theorem c3 : Tryd.prog.cellsOf 3 = 1 := by kernel_rfl
theorem c9 : Tryd.prog.cellsOf 9 = 1 := by kernel_rfl
/-- The numbers of the turns as the row lists them. -/
def kInts : List Int := kNat.map fun (n : Nat) => (n : Int)
theorem kInts_ok : (List.range 64).all (fun i => decide (N (wd kTab i) = kInts.getD i 0)) = true := by decide +kernel
/-- The table, listed first. -/
theorem tabK_of {W : World} {l : List (String × DataW Unit)} (h : laidMet Tryd.prog ((nameK, Rows.laid_oubliette_sum_roundNumbers) :: l) W) : TabK W := by
  have hK := Lib.tabIs_of_head (k := .u32) (zs := kInts) gK tK Tryd.underlying51 Tryd.underlying49 c49 c51 h
  intro i hi
  rw [hK.cell gK i (by show i < 64; exact hi)]
  have h4 := List.all_eq_true.1 kInts_ok i (by simp; omega)
  rw [← of_decide_eq_true h4]
theorem of_tab {W : World} (h : laidMetH Tryd.prog Rows.wireBackRow.laid W) : TabK W := by
  have h' : laidMet Tryd.prog [(nameK, Rows.laid_oubliette_sum_roundNumbers)] W := h
  exact tabK_of h'
/-- The door's own heap meets the condition. -/
theorem door_tab (os : Os) (args : Array Value) : laidMetH Tryd.prog Rows.wireBackRow.laid ((World.doorLaid Tryd.prog 21 os).forCall (fun _ _ => 0) ⟨#[], args, []⟩).memory :=
  laidMetH_of_parts3 (fuel := 8) (laidMet_of_run' 8 (by kernel_rfl) (by kernel_rfl)) (by kernel_rfl) (by kernel_rfl)
set_option maxRecDepth 100000 in
/-- A record that came in: two numbers and three texts. -/
theorem record_of {H : Type} {enc : TypeId × Value → H} {W : World} {base : Nat} {sp : Nat → Bool} {held : Bool} {v : Value} {d : DataW H} {p : List MemPlace} {r : Reach} {b0 : Nat} (hv : Value.okWide Tryd.prog W r b0 23 v) (h : DataW.Trod enc Tryd.prog W base sp held 23 v d p) :
    ∃ (q : Int) (s : ByteArray) (g : Int) (p d : ByteArray), v = .agg #[.int .i64 q, .string s, .int .i64 g, .string p, .string d] := by
  obtain ⟨cs, rfl, hsz⟩ := okWide_struct Tryd.underlying23 hv
  obtain ⟨fuel, hf⟩ := h
  obtain ⟨xs, n, _, _, hl, hlen, hfs⟩ := DataW.trod_struct Tryd.underlying23 hf
  have hl' : cs.toList.length = 5 := by rw [Array.length_toList, hsz, c23]
  have hcs : (Value.agg cs).cells.toList = cs.toList := rfl
  rw [hcs] at hfs
  match xs, hlen, hfs with
  | [y0, y1, y2, y3, y4], _, hfs =>
    match hL : cs.toList, hl' with
    | [x0, x1, x2, x3, x4], _ =>
      have g0 := hfs 0 _ rfl
      have g1 := hfs 1 _ rfl
      have g2 := hfs 2 _ rfl
      have g3 := hfs 3 _ rfl
      have g4 := hfs 4 _ rfl
      simp only [hL] at g0 g1 g2 g3 g4
      obtain ⟨q, e0, _⟩ := DataW.trod_int Tryd.underlying3 g0
      obtain ⟨s, e1, _⟩ := DataW.trod_string Tryd.underlying9 g1
      obtain ⟨g, e2, _⟩ := DataW.trod_int Tryd.underlying3 g2
      obtain ⟨p, e3, _⟩ := DataW.trod_string Tryd.underlying9 g3
      obtain ⟨d, e4, _⟩ := DataW.trod_string Tryd.underlying9 g4
      simp [c3, c9] at e0 e1 e2 e3 e4
      refine ⟨q, s, g, p, d, ?_⟩
      congr 1
      apply Array.ext'
      rw [hL, e0, e1, e2, e3, e4]
end Go.Proofs.YtkbaalenbpgheaaDoor

/- The document's own test of bounds. -/
namespace Go.Proofs.YtkbaalenbpgheaaDoor
open Go.RowKit
end Go.Proofs.YtkbaalenbpgheaaDoor
