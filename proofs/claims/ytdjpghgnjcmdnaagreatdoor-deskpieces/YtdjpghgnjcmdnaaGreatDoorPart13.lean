/- Texts of this proof, one behind the other. -/
import Derived.BigRegionIn
import Derived.Deep.RegionHeld3
import Derived.Deep.DrawnRows
import Derived.Deep.QuietTactic
import Derived.BigQuiet
import Derived.Test.YtdjpghgnjcmdnaaGreatDoorPart12
/- A session, over whatever a desk is in memory. -/
namespace Go.Proofs.YtdjpghgnjcmdnaaGreatDoor
open Go.RowKit Go.Shelf Go.Sort
attribute [local go_sem ↓] Go.wp_at_zero Go.wp_at_succ
attribute [local go_sem] Oper.semAt_some
attribute [local go_sem ↓] run_add_nl
set_option linter.unusedSectionVars false
variable [Inhabited LowT]
/-- A desk that is made anew: the table of its orders, then its source. -/
structure Starts {S : Type} (D : Nat → S → World → Prop) (s0 : S) : Prop where
  makes : ∀ (w : World) (db : Nat), Vars w → lowK ≤ db → HasR w db 34 #[.map none, .pointer none, .map none, .int .i64 0, .string ⟨#[]⟩, .slice none 0 0, .int .i64 0] → 
    Calls Tryz.prog 6 #[.pointer (some ⟨db, 0, none⟩)] w fun e w1 => ∃ mb, e = .returned (.map (some mb)) ∧ Below w.heap.size w w1 ∧
      Calls Tryz.prog 7 #[.pointer (some ⟨db, 0, none⟩), .string ⟨#[]⟩] (w1.setCell ⟨db, 0, none⟩ (.map (some mb))) fun e w2 => e = .returned (.tuple #[]) ∧ D db s0 w2 ∧ Quiet w w2
theorem write_any (b : Nat) (out : List UInt8) (o : ByteArray) (w : World) (h : Lib.IsBuilderF 40 5 b b (Lib.byteCells out) w) (hl : (Lib.byteCells out).length + o.size ≤ 140737488355328) : Calls Tryz.prog 9 #[.pointer (some ⟨b, 0, none⟩), .string o] w fun e w' => e = .returned (.tuple #[.int .i64 o.size, .nilIface]) ∧ Lib.BuilderAtF 40 5 b b (.pointer (some ⟨b, 0, none⟩)) (Lib.byteCells out ++ Lib.strCells o) w' ∧ Below b w w' ∧ Lib.OthersKept 5 (some b) w w' :=
  Any.Builder_WriteString_k dLays166 dExtra156 b b (Lib.byteCells out) o w h hl (Nat.le_of_lt ((bld_block h).elim fun _ h => h.lt))
theorem string_any (b : Nat) (out : List UInt8) (w : World) (h : Lib.IsBuilderF 40 5 b b (Lib.byteCells out) w) (hne : out ≠ []) : Calls Tryz.prog 11 #[.pointer (some ⟨b, 0, none⟩)] w fun e w' => e = .returned (.string (textL out)) ∧ Lib.IsBuilderF 40 5 b b (Lib.byteCells out) w' ∧ Below b w w' ∧ Lib.OthersKept 5 (some b) w w' :=
  Any.Builder_String_k dLays169 dExtra169 b b out w h hne
theorem trim_le (l : List UInt8) (h : l.length ≤ 20000) : (trimN l).length ≤ 30000 := by
  unfold trimN
  split
  · simp
    omega
  · omega
theorem held_start {S : Type} {D : S → World → Prop} (hD : ∀ s w w', D s w → Noise w w' → D s w') {Ans : S → List UInt8 → List UInt8 → S → Prop} {s0 : S} {wS w2 W0 : World} {l : List UInt8} {b db dB : Nat} (hb : w2.heap.size = b) (hW0 : linesW l (w2.alloc (.cells #[.pointer none, .slice none 0 0] 40)) = W0) (hd : D s0 w2) (hB : HasR w2 dB 26 #[.pointer (some ⟨db, 0, none⟩)]) (hV : Vars w2) (hS : Below lowK wS w2) : Held D Ans s0 wS b (b + 1) db dB [] W0 := by
  subst hb
  unfold linesW at hW0
  have B : Below w2.heap.size w2 W0 := by
    rw [← hW0]
    exact ((((Below.refl w2.heap.size w2).alloc (Nat.le_refl _) _).alloc (by simp) _).alloc (by simp; omega) _).alloc (by simp; omega) _
  have h11 := hV.n
  have _hk11 := lowK_le
  refine ⟨[], s0, ⟨rfl, rfl⟩, by simp, hD s0 w2 W0 hd (Noise.of_below B h11), .inl ⟨Nat.le_refl _, .slice none 0 0, ?_, ?_, by simp [Value.ownBlock]⟩, hB.below B hB.lt, ⟨⟨.string (textL (trimN l)), ?_⟩, ?_, ?_⟩, hV.low (B.mono h11) B.size, hS.trans (B.mono h11)⟩
  · rw [← hW0]
    exact (((HasR.new w2 40 #[.pointer none, .slice none 0 0]).alloc _).alloc _).alloc _
  · exact World.ownsRowF_of (World.ownsRow_nil _ _ _ _)
  · rw [← hW0]
    have := (HasR.new (w2.alloc (.cells #[.pointer none, .slice none 0 0] 40)) 9 #[.string (textL (trimN l))])
    rw [World.size_alloc] at this
    exact (this.alloc _).alloc _
  · rw [← hW0]
    have := (HasR.new ((w2.alloc (.cells #[.pointer none, .slice none 0 0] 40)).alloc (.cells #[.string (textL (trimN l))] 9)) 9 #[.string ⟨#[10]⟩])
    rw [World.size_alloc, World.size_alloc] at this
    exact this.alloc _
  · rw [← hW0]
    have := (HasR.new (((w2.alloc (.cells #[.pointer none, .slice none 0 0] 40)).alloc (.cells #[.string (textL (trimN l))] 9)).alloc (.cells #[.string ⟨#[10]⟩] 9)) 3 #[.int .i64 0])
    rw [World.size_alloc, World.size_alloc, World.size_alloc] at this
    exact this
theorem size_start {w2 W0 : World} {l : List UInt8} {b : Nat} (hb : w2.heap.size = b) (hW0 : linesW l (w2.alloc (.cells #[.pointer none, .slice none 0 0] 40)) = W0) : W0.heap.size = b + 4 := by
  subst hb
  rw [← hW0]
  unfold linesW
  simp
theorem box_start {w2 W0 : World} {l : List UInt8} {b : Nat} (hb : w2.heap.size = b) (hW0 : linesW l (w2.alloc (.cells #[.pointer none, .slice none 0 0] 40)) = W0) : HasR W0 (b + 1) 9 #[.string (textL (trimN l))] := by
  subst hb
  unfold linesW at hW0
  rw [← hW0]
  have := (HasR.new (w2.alloc (.cells #[.pointer none, .slice none 0 0] 40)) 9 #[.string (textL (trimN l))])
  rw [World.size_alloc] at this
  exact (this.alloc _).alloc _
set_option maxRecDepth 100000 in
set_option maxHeartbeats 2000000 in
/-- Lines that count one at most each. -/
theorem RunsTo.cnt {S : Type} {Ans : S → List UInt8 → List UInt8 → S → Prop} {cnt : S → Nat} (hc : ∀ s l o s', Ans s l o s' → cnt s' ≤ cnt s + 1) : ∀ {xs : List (List UInt8)} {s t : S} {out : List UInt8}, RunsTo Ans s xs out t → cnt t ≤ cnt s + xs.length
  | [], s, t, out, h => by
    obtain ⟨_, rfl⟩ := h
    exact Nat.le_refl _
  | x :: xs, s, t, out, h => by
    obtain ⟨o, s1, r, h1, h2, _⟩ := h
    have := RunsTo.cnt hc h2
    have := hc _ _ _ _ h1
    simp only [List.length_cons]
    omega
theorem session_any {S : Type} {D : Nat → S → World → Prop} {Ob : S → ByteArray → List ByteArray → ByteArray → S → Prop} {Th : S → ByteArray → List ByteArray → Option Nat} (hD : ∀ db s w w', D db s w → Noise w w' → D db s w') (s0 : S) (hS : Starts D s0) {cnt : S → Nat} (hO : ∀ db, Obeys (D db) Ob Th cnt db) (hc0 : cnt s0 = 0) (hcn : ∀ s l o s', AnsOf Ob s l o s' → cnt s' ≤ cnt s + 1) (hB : ∀ s l o s', AnsOf Ob s l o s' → Fits o) (l : List UInt8) (hl : l.length ≤ 20000) (w : World) (hV : Vars w) :
    Calls Tryz.prog 4 #[.string (textL l)] w fun e w' => ∃ out s, RunsTo (fun s l o s' => AnsOf Ob s l (textL o) s') s0 (linesN l) out s ∧ e = .returned (.string (textL out)) ∧ Below lowK w w' := by
  have hsz : ¬ ((textL l).size : Int) > 20000 := by
    have : (textL l).size = l.length := rfl
    omega
  have hsz2 : ¬ (20000 : Int) < ((textL l).size : Int) := by
    have : (textL l).size = l.length := rfl
    omega
  obtain ⟨w0, hw0⟩ : ∃ w0, (w.alloc (.cells #[.map none, .pointer none, .map none, .int .i64 0, .string ⟨#[]⟩, .slice none 0 0, .int .i64 0] 34)).alloc (.cells #[.pointer (some ⟨w.heap.size, 0, none⟩)] 26) = w0 := ⟨_, rfl⟩
  have XD := hide (HasR.alloc (HasR.new w 34 #[.map none, .pointer none, .map none, .int .i64 0, .string ⟨#[]⟩, .slice none 0 0, .int .i64 0]) (.cells #[.pointer (some ⟨w.heap.size, 0, none⟩)] 26))
  have XB := hide (HasR.new (w.alloc (.cells #[.map none, .pointer none, .map none, .int .i64 0, .string ⟨#[]⟩, .slice none 0 0, .int .i64 0] 34)) 26 #[.pointer (some ⟨w.heap.size, 0, none⟩)])
  have B0 := hide (((Below.refl w.heap.size w).alloc (Nat.le_refl _) (.cells #[.map none, .pointer none, .map none, .int .i64 0, .string ⟨#[]⟩, .slice none 0 0, .int .i64 0] 34)).alloc (by simp) (.cells #[.pointer (some ⟨w.heap.size, 0, none⟩)] 26))
  have hs0 : w0.heap.size = w.heap.size + 2 := by rw [← hw0]; simp
  rw [World.size_alloc] at XB
  rw [hw0] at XD XB B0
  have h11 := hV.n
  have _hk11 := lowK_le
  have V0 := hV.low (B0.out.mono h11) B0.out.size
  have MK := hide (hS.makes w0.drew w.heap.size (V0.low ((Below.refl lowK w0).drew) (Nat.le_refl _)) h11 XD.out.drew)
  have c0 : w0.cell? ⟨w.heap.size + 1, 0, none⟩ = some (.pointer (some ⟨w.heap.size, 0, none⟩)) := XB.out.cell 0
  have HV := hide hV
  have HD := hide (hD w.heap.size)
  have HO := hide hO
  have HB := hide hB
  have HC0 := hide hc0
  have HCN := hide hcn
  have HL := hide hl
  have LN := hide (fun wx => lines_any l (by omega) wx)
  have V0' := hide V0
  have hsz0 := hide hs0
  have hh11 := hide h11
  clear hV hD hO hB hl hS V0 hs0 h11 hc0 hcn
  refine (callsIn_wide (n := 3)).1 ?_
  refine callsIn_of_wp_marks Tryz.func4 rfl trivial ?_ rfl
  simp only [Tryz.ntmps4, List.size_toArray, List.length_cons, List.length_nil, Nat.reduceAdd, Nat.reduceSub, Array.replicate_succ, Array.replicate_zero, List.push_toArray, List.append_toArray, List.nil_append, List.cons_append]
  refine wpIn_wide.2 ?_
  go_upto_region 4 with fail
  try rw [hw0]
  go_region_held3 (fun wx => wx.cell? ⟨w.heap.size + 1, 0, none⟩ = some (.pointer (some ⟨w.heap.size, 0, none⟩))) (first | (with_reducible exact c1.out) | go_keep)
    (first
    | (go_at_call 6; (with_reducible refine MK.out.mono ?_); rintro y w1 ⟨mb, rfl, hb, hA⟩; have AN := hide hA; have X1 := hide (XD.out.drew.below hb XD.out.lt); have Y1 := hide (XB.out.drew.below hb XB.out.lt); have B1 := hide hb; have c1 : Hid (w1.cell? ⟨w.heap.size + 1, 0, none⟩ = some (.pointer (some ⟨w.heap.size, 0, none⟩))) := hide (Y1.out.cell 0); have c1p := c1.out; have z1 : w1.cell? ⟨w.heap.size, 0, none⟩ = some (.map none) := X1.out.cell 0; have f1 : w1.frozen? ⟨w.heap.size, 0, none⟩ = false := X1.out.free 0; clear hb hA))
  go_wp2_with (first
    | (go_at_call 7; (with_reducible refine AN.out.mono ?_); rintro y w2 ⟨rfl, hd2, hq2⟩; have D2 := hide hd2; have Q2 := hide hq2; have Y2 := hide (hq2.keep _ _ XB.out.drew (.inr ⟨_, _, _, rfl, by simp⟩)); have c2 : w2.cell? ⟨w.heap.size + 1, 0, none⟩ = some (.pointer (some ⟨w.heap.size, 0, none⟩)) := HasR.cell Y2.out 0; clear hd2 hq2)
    | (go_at_call 8; (with_reducible refine (LN.out _).mono ?_); rintro y w3 ⟨rfl, rfl⟩))
  clear AN
  obtain ⟨b, hb⟩ : ∃ b, w2.heap.size = b := ⟨_, rfl⟩
  obtain ⟨W0, hW0⟩ : ∃ W0, linesW l (w2.alloc (.cells #[.pointer none, .slice none 0 0] 40)) = W0 := ⟨_, rfl⟩
  have q02 : Quiet w0.drew w2 := Q2.out
  have q02l : Below lowK w0 w2 := ((Below.refl lowK w0).drew).trans q02.low
  have hw2 : w0.heap.size ≤ w2.heap.size := q02.size
  have h11 := hh11.out
  have _hl11 := lowK_le
  have hb11 : lowK ≤ b := by have := V0'.out.n; omega
  have HE := hide (held_start (D := D w.heap.size) HD.out hb hW0 D2.out Y2.out (V0'.out.low q02l q02.size) ((B0.out.mono h11).trans q02l) (Ans := fun s l o s' => AnsOf Ob s l (textL o) s'))
  have BX := box_start (l := l) hb hW0
  have hz := size_start (l := l) hb hW0
  rw [hb, hW0]
  clear hW0
  have hW11 : lowK ≤ W0.heap.size := by omega
  have VM : TabM W0 := by obtain ⟨_, _, _, _, _, _, _, _, h7, _⟩ := HE.out; exact h7.m
  have HBX : Boxes (b + 1) W0 := by obtain ⟨_, _, _, _, _, _, _, h6, _⟩ := HE.out; exact h6
  refine (wpIn_wide (n := 3)).1 ?_
  refine range_box rfl (by omega) (gf := 101) rfl trivial (enters_of Tryz.func101 (by kernel_rfl) rfl) (lines_seq (3 - 1) (by omega) (b + 1 + 1) (b + 1) (b + 1 + 2) lowK (trimN l) (trim_le l HL.out) W0 (by omega) (by omega) (by omega) (by omega) hW11 VM HBX.2.1 BX HBX.2.2) KpL.t ?keepb (fun _ => rfl) (Held (D w.heap.size) (fun s l o s' => AnsOf Ob s l (textL o) s') s0 w b (b + 1) w.heap.size (w.heap.size + 1)) (Held.aside HD.out hW11) (fun s X v h => Held.box HD.out (by omega) s X v h) HE.out (fun x => { tmps := #[.string (textL l), undef, .string ⟨#[]⟩, .pointer (some ⟨w.heap.size + 1, 0, none⟩), .pointer (some ⟨b, 0, none⟩), .string (textL x.val), .string (textL l), .int .i64 (textL l).size, .bool false, undef, undef, undef, .agg #[.map none, .pointer none, .map none, .int .i64 0, .string ⟨#[]⟩, .slice none 0 0, .int .i64 0], .pointer (some ⟨w.heap.size, 0, none⟩), .pointer (some ⟨w.heap.size, 0, none⟩), .pointer (some ⟨w.heap.size, 0, none⟩), .map (some mb), .pointer (some ⟨w.heap.size, 0, none⟩), .pointer (some ⟨w.heap.size, 0, none⟩), .pointer (some ⟨w.heap.size, 0, none⟩), .tuple #[], .string (textL l), seqV (b + 1), .string (textL x.val), undef, undef, undef, undef, undef, undef], defers := [] }) ?assign ?body ?done
  case keepb =>
    intro W lp o o' h1 h2 h3 h4
    exact ⟨belowK_b (w := W0) hW11 W lp o o' h1 h2 h3 h4, World.putObj_heap_other (by omega), World.putObj_heap_other (by omega), World.putObj_heap_other (by omega)⟩
  case assign =>
    intro lp x W K hK
    unfold lineV
    gi_wp2
    exact hK
  case body =>
    intro lp pre x W hH hlt
    obtain ⟨out, s, h1, h2, h3, h4, h5, h6, h7, h8⟩ := hH
    have hcs : cnt s ≤ 30000 := by
      have hk := RunsTo.cnt (cnt := cnt) (fun s l o s' h => HCN.out s l (textL o) s' h) h1
      have ht := trim_le l HL.out
      have hv : (valsL pre).length = pre.length := by simp [valsL]
      rw [HC0.out, hv] at hk
      omega
    have AN := hide (CallsIn.inRound lp ((callsIn_wide (n := 3 - 1 - 1 - 1)).2 (answer_any HD.out w.heap.size (HO.out _) s hcs x.val x.ok W h3 h7)))
    have cB : W.cell? ⟨w.heap.size + 1, 0, none⟩ = some (.pointer (some ⟨w.heap.size, 0, none⟩)) := h5.cell 0
    have hnb : ∀ o, Fits o → (Lib.byteCells out).length + (o ++ (⟨#[10]⟩ : ByteArray)).size ≤ 140737488355328 := fun o ho => by
      have ht := trim_le l HL.out
      rw [Lib.byteCells_length, size_nl]
      unfold Fits at ho
      have : pre.length ≤ 30000 := by omega
      have : pre.length * 1000000001 ≤ 30000 * 1000000001 := Nat.mul_le_mul_right _ this
      omega
    have HNB := hide hnb
    have H1 := hide h1
    have H2 := hide h2
    have H4 := hide h4
    have H5 := hide h5
    have H6 := hide h6
    have H7 := hide h7
    have H8 := hide h8
    have hb3 := hide hb11
    clear h1 h2 h3 h4 h5 h6 h7 h8 hnb hlt
    gi_wp2_with (first
      | (refine ⟨trivial, ?_⟩; gi_at_call 10; (with_reducible refine AN.out.mono ?_); rintro y W2 ⟨o, s', ho, rfl, hd2, hq2⟩; have fo : Fits o := HB.out _ _ _ _ ho; have OO := hide ho; have DD := hide hd2; have QQ := hide hq2; have WS := hide (CallsIn.inRound lp ((callsIn_wide (n := 3 - 1 - 1 - 1)).2 (write_any b out (o ++ ⟨#[10]⟩) W2 (bld_keep H4.out hq2.own) (HNB.out o fo)))); clear ho hd2 hq2)
      | (refine ⟨trivial, ?_⟩; gi_at_call 9; (with_reducible refine WS.out.mono ?_); rintro y W3 ⟨rfl, hA, hbb, hkk⟩))
    exact held_next HD.out hb3.out H1.out H2.out H4.out H5.out H6.out H7.out H8.out OO.out fo DD.out QQ.out hA hbb hkk
  case done =>
    intro D1 xs W hD1 hxs hH hdef
    obtain ⟨out, s, h1, h2, h3, h4, h5, h6, h7, h8⟩ := hH
    have hne : out ≠ [] := h1.ne (by rw [hxs]; exact cutN_ne _)
    have ST := hide (string_any b out W h4 hne)
    rw [hxs] at h1
    have H1 := hide h1
    have H8 := hide h8
    have HF := hide hdef
    have hb3 := hide hb11
    clear h1 h2 h3 h4 h5 h6 h7 h8 hdef hne hxs
    go_wp2_with (go_at_call 11; (with_reducible refine ST.out.mono ?_); rintro y W3 ⟨rfl, _, hbb, hkk⟩)
    have hKd : W3.heap[D1]? = some (.deferred (some [])) := hkk _ _ HF.out (fun e => by cases e; omega) (fun _ _ e => by cases e)
    refine ⟨by simp, .inl ⟨_, _, rfl, run_takeDeferred hKd, ?_⟩⟩
    refine ⟨.string (textL out), by simp [results, Tryz.results4, go_sem], out, s, H1.out, rfl, ?_⟩
    exact (H8.out.trans (hbb.mono hb3.out)).trans (belowK_b (w := W0) hW11 W3 D1 _ _ hD1 hKd rfl rfl)
end Go.Proofs.YtdjpghgnjcmdnaaGreatDoor

/- The law of a session's pieces, over whatever a desk is in memory. -/
namespace Go.Proofs.YtdjpghgnjcmdnaaGreatDoor
open Go.RowKit Go.Shelf Go.Sort
set_option linter.unusedSectionVars false
variable [Inhabited LowT]
/-- A text that is no great one. -/
def Few2 (X : ByteArray) : Prop := (X.size : Int) ≤ 8388608
theorem run_add_few (w : World) (X Y : ByteArray) (h : Few2 X) (k : Few2 Y) : (Op.stringOp .add X Y).run Tryz.prog w = .ok (.string (X ++ Y)) w := run_string_add w X Y h k
attribute [local go_sem ↓] run_add_few
attribute [local go_sem ↓] Go.wp_at_zero Go.wp_at_succ
/-- What is asked of a session, and what it must answer. -/
def askedL : List UInt8 := [112, 117, 116, 32, 97, 110, 110, 32, 109, 97, 105, 108, 32, 98, 111, 120, 32, 97, 32, 98, 10, 114, 101, 97, 100, 32, 120, 32, 57, 10, 112, 117, 116, 32, 98, 111, 98, 32, 109, 97, 105, 108, 32, 98, 97, 103, 32, 99, 10, 103, 111, 110, 101, 32, 97, 110, 110, 10, 114, 101, 97, 100, 32, 120, 32, 57, 10, 114, 101, 97, 100, 32, 121, 32, 57, 10, 114, 111, 119, 115, 32, 120, 10, 114, 111, 119, 115, 32, 121, 10, 108, 111, 115, 116, 32, 120, 10, 108, 111, 115, 116, 32, 121, 10, 99, 101, 108, 108, 115, 10, 115, 117, 98, 106, 101, 99, 116, 115, 10, 120, 10]
def toldAll : List UInt8 := [112, 117, 116, 32, 49, 32, 49, 32, 51, 54, 10, 114, 101, 97, 100, 32, 49, 10, 112, 117, 116, 32, 50, 32, 49, 32, 51, 52, 10, 103, 111, 110, 101, 32, 51, 32, 48, 32, 56, 10, 114, 101, 97, 100, 32, 51, 10, 114, 101, 97, 100, 32, 51, 10, 114, 111, 119, 115, 32, 109, 97, 105, 108, 46, 98, 97, 103, 58, 98, 111, 98, 61, 99, 10, 114, 111, 119, 115, 32, 109, 97, 105, 108, 46, 98, 97, 103, 58, 98, 111, 98, 61, 99, 10, 108, 111, 115, 116, 32, 48, 10, 108, 111, 115, 116, 32, 49, 10, 99, 101, 108, 108, 115, 32, 109, 97, 105, 108, 46, 98, 97, 103, 58, 98, 111, 98, 61, 99, 10, 115, 117, 98, 106, 101, 99, 116, 115, 32, 98, 111, 98, 10, 101, 114, 114, 111, 114, 32, 51, 10]
theorem sizes_wrap (a b : Nat) (h : a ≤ 2500) (k : b ≤ 2500) : wrap64 ((a : Int) + (b : Int)) = (a : Int) + (b : Int) := by
  unfold wrap64
  omega
theorem few_add {X Y : ByteArray} (h : X.size ≤ 5000) (k : Y.size ≤ 5000) : Few2 (X ++ Y) := by
  unfold Few2
  rw [ByteArray.size_append]
  omega
theorem textL_app (a b : List UInt8) : textL a ++ textL b = textL (a ++ b) := by
  apply ByteArray.ext
  simp [textL, ByteArray.data_append]
theorem prefix_take (x z : List UInt8) (w : World) : (Instr.slice 9 (.string (textL (x ++ z))) none (some (.int .i64 ((textL x).size : Int))) none).run Tryz.prog w = .ok (.string (textL x)) w := by
  have hz : (textL (x ++ z)).size = x.length + z.length := by simp [textL, ByteArray.size]
  have hx : (textL x).size = x.length := rfl
  have h2 := run_slice_string_h (P := Tryz.prog) w 9 (textL (x ++ z)) Tryz.underlying9 .i64 ((textL x).size : Int) (by omega) (by omega)
  rw [h2]
  have : (((textL x).size : Nat) : Int).toNat = x.length := by omega
  rw [this, textL_take]
theorem takeText_le (x z : List UInt8) : ((textL x).size : Int) ≤ ((textL (x ++ z)).size : Int) := by
  have e1 : (textL x).size = x.length := rfl
  have e2 : (textL (x ++ z)).size = (x ++ z).length := rfl
  rw [e1, e2, List.length_append]
  omega
set_option maxRecDepth 100000 in
set_option maxHeartbeats 2000000 in
theorem pieces_small (a b : List UInt8) (ha : a.length ≤ 2500) (hb : b.length ≤ 2500) (hab : a.length + b.length ≤ 2500) (P : List UInt8 → Prop)
    (S1 : ∀ w, Vars w → Calls Tryz.prog 4 #[.string (textL askedL)] w fun e w' => e = .returned (.string (textL toldAll)) ∧ Below lowK w w')
    (S2 : ∀ w, Vars w → Calls Tryz.prog 4 #[.string (textL (a ++ [10]))] w fun e w' => ∃ x, P x ∧ e = .returned (.string (textL x)) ∧ Below lowK w w')
    (S3 : ∀ x, P x → ∀ w, Vars w → Calls Tryz.prog 4 #[.string (textL (a ++ 10 :: b))] w fun e w' => ∃ z, e = .returned (.string (textL (x ++ z))) ∧ Below lowK w w') (w : World) (hV : Vars w) :
    Calls Tryz.prog 3 #[.string (textL a), .string (textL b)] w fun e w' => e = .returned (.bool true) ∧ Below lowK w w' := by
  have s1 := hide (S1 w hV)
  have T2 : ∀ w1, Below lowK w w1 → Calls Tryz.prog 4 #[.string (textL a ++ ⟨#[10]⟩)] w1 fun e w' => ∃ x, P x ∧ e = .returned (.string (textL x)) ∧ Below lowK w1 w' := fun w1 hb1 => by
    rw [show (⟨#[10]⟩ : ByteArray) = textL [10] from rfl, textL_app]
    exact S2 w1 (hV.low hb1 hb1.size)
  have T3 : ∀ x, P x → ∀ w1, Below lowK w w1 → Calls Tryz.prog 4 #[.string (textL a ++ ⟨#[10]⟩ ++ textL b)] w1 fun e w' => ∃ z, e = .returned (.string (textL (x ++ z))) ∧ Below lowK w1 w' := fun x hx w1 hb1 => by
    rw [show (⟨#[10]⟩ : ByteArray) = textL [10] from rfl, textL_app, textL_app, show a ++ [10] ++ b = a ++ 10 :: b by simp]
    exact S3 x hx w1 (hV.low hb1 hb1.size)
  have f4 : Few2 (textL a ++ ⟨#[10]⟩) := few_add (by show a.length ≤ 5000; omega) (by decide)
  have za : (textL a).size = a.length := rfl
  have zb : (textL b).size = b.length := rfl
  have g1 : ¬ (2500 : Int) < ((textL a).size : Int) := by omega
  have g2 : ¬ (2500 : Int) < ((textL b).size : Int) := by omega
  have g3 : ¬ (2500 : Int) < ((textL a).size : Int) + ((textL b).size : Int) := by omega
  have g4 := sizes_wrap (textL a).size (textL b).size (by omega) (by omega)
  have f1 : Few2 (textL a) := by unfold Few2; omega
  have f2 : Few2 (textL b) := by unfold Few2; omega
  have f3 : Few2 ⟨#[10]⟩ := by unfold Few2; decide
  have HT2 := hide T2
  have HT3 := hide T3
  clear za zb ha hb hab S1 S2 S3 hV T2 T3
  unfold askedL toldAll at s1
  rw [textL, textL] at s1
  go_enter Tryz.func3, Tryz.ntmps3
  go_wp2_with (first
    | (go_at_call 4; (with_reducible refine s1.out.mono ?_); rintro _ w1 ⟨rfl, hb1⟩; have B1 := hide hb1; have s2 := hide (HT2.out w1 hb1); clear hb1 s1)
    | (go_at_call 4; (with_reducible refine s2.out.mono ?_); rintro _ w2 ⟨x, hx, rfl, hb2⟩; have B2 := hide hb2; have s3 := hide (HT3.out x hx w2 (B1.out.trans hb2)); clear hb2 s2)
    | (go_at_call 4; (with_reducible refine s3.out.mono ?_); rintro _ w3 ⟨z, rfl, hb3⟩; have SL := prefix_take x z; have hle := takeText_le x z))
  go_ret
  exact ⟨rfl, (B1.out.trans B2.out).trans hb3⟩
set_option maxRecDepth 100000 in
set_option maxHeartbeats 2000000 in
theorem pieces_great (a b : ByteArray) (h : 2500 < a.size ∨ 2500 < b.size ∨ 2500 < a.size + b.size) (w : World) :
    Calls Tryz.prog 3 #[.string a, .string b] w fun e w' => e = .returned (.bool true) ∧ w' = w := by
  by_cases h1 : 2500 < a.size
  · have g1 : (2500 : Int) < (a.size : Int) := by omega
    clear h
    go_enter Tryz.func3, Tryz.ntmps3
    go_wp2
    go_ret
    exact ⟨rfl, rfl⟩
  by_cases h2 : 2500 < b.size
  · have g1 : ¬ (2500 : Int) < (a.size : Int) := by omega
    have g2 : (2500 : Int) < (b.size : Int) := by omega
    clear h
    go_enter Tryz.func3, Tryz.ntmps3
    go_wp2
    go_ret
    exact ⟨rfl, rfl⟩
  have g1 : ¬ (2500 : Int) < (a.size : Int) := by omega
  have g2 : ¬ (2500 : Int) < (b.size : Int) := by omega
  have g3 : (2500 : Int) < (a.size : Int) + (b.size : Int) := by omega
  have g4 := sizes_wrap a.size b.size (by omega) (by omega)
  clear h h1 h2
  go_enter Tryz.func3, Tryz.ntmps3
  go_wp2
  go_ret
  exact ⟨rfl, rfl⟩
/-- The law, of whatever desk answers as it is told, line by line. -/
theorem pieces_any {S : Type} {Ans : S → List UInt8 → List UInt8 → S → Prop} (s0 : S) (hd : ∀ s l o s' o' s'', Ans s l o s' → Ans s l o' s'' → o = o' ∧ s' = s'') (hfix : ∀ out s, RunsTo Ans s0 (linesN askedL) out s → out = toldAll)
    (SE : ∀ (l : List UInt8), l.length ≤ 20000 → ∀ w, Vars w → Calls Tryz.prog 4 #[.string (textL l)] w fun e w' => ∃ out s, RunsTo Ans s0 (linesN l) out s ∧ e = .returned (.string (textL out)) ∧ Below lowK w w') (a b : ByteArray) (w : World) (hV : Vars w) :
    Calls Tryz.prog 3 #[.string a, .string b] w fun e w' => e = .returned (.bool true) ∧ Below lowK w w' := by
  by_cases hg : 2500 < a.size ∨ 2500 < b.size ∨ 2500 < a.size + b.size
  · exact (pieces_great a b hg w).mono fun _ _ ⟨h1, h2⟩ => ⟨h1, by rw [h2]; exact Below.refl _ _⟩
  · have la : a.data.toList.length = a.size := by simp
    have lb : b.data.toList.length = b.size := by simp
    rw [← textL_of a, ← textL_of b]
    generalize a.data.toList = x at la ⊢
    generalize b.data.toList = y at lb ⊢
    have h1 : x.length ≤ 2500 := by omega
    have h2 : y.length ≤ 2500 := by omega
    refine pieces_small x y h1 h2 (by omega) (fun out => ∃ s, RunsTo Ans s0 (linesN (x ++ [10])) out s) ?_ ?_ ?_ w hV
    · exact fun w hV => (SE askedL (by decide) w hV).mono fun _ _ ⟨out, s, hr, he, hb⟩ => ⟨by rw [he, hfix out s hr], hb⟩
    · exact fun w hV => (SE (x ++ [10]) (by simp; omega) w hV).mono fun _ _ ⟨out, s, hr, he, hb⟩ => ⟨out, ⟨s, hr⟩, he, hb⟩
    · rintro out ⟨s, hr⟩ w hV
      refine (SE (x ++ 10 :: y) (by simp; omega) w hV).mono ?_
      rintro _ _ ⟨out2, s2, hr2, rfl, hb⟩
      obtain ⟨z, rfl⟩ := RunsTo.begins hd hr hr2
      exact ⟨z, rfl, hb⟩
end Go.Proofs.YtdjpghgnjcmdnaaGreatDoor

/- What is left of the law: a desk in memory that is made, and that obeys. -/
namespace Go.Proofs.YtdjpghgnjcmdnaaGreatDoor
open Go.RowKit Go.Shelf Go.Sort
set_option linter.unusedSectionVars false
variable [Inhabited LowT]
theorem pieces_desk {S : Type} {D : Nat → S → World → Prop} {Ob : S → ByteArray → List ByteArray → ByteArray → S → Prop} {Th : S → ByteArray → List ByteArray → Option Nat} (hD : ∀ db s w w', D db s w → Noise w w' → D db s w') (s0 : S) (hS : Starts D s0) {cnt : S → Nat} (hO : ∀ db, Obeys (D db) Ob Th cnt db) (hc0 : cnt s0 = 0) (hcn : ∀ s x xs o s', Ob s x xs o s' → cnt s' ≤ cnt s + 1) (hB : ∀ s x xs o s', Ob s x xs o s' → Fits o)
    (hd : ∀ s x xs o s' o' s'', Ob s x xs o s' → Ob s x xs o' s'' → o = o' ∧ s' = s'') (hfix : ∀ out s, RunsTo (fun s l o s' => AnsOf Ob s l (textL o) s') s0 (linesN askedL) out s → out = toldAll) (a b : ByteArray) (w : World) (hV : Vars w) :
    Calls Tryz.prog 3 #[.string a, .string b] w fun e w' => e = .returned (.bool true) ∧ Below lowK w w' := by
  refine pieces_any s0 ?_ hfix (fun l hl w hV => session_any hD s0 hS hO hc0 ?_ ?_ l hl w hV) a b w hV
  · intro s l o s' o' s'' h k
    unfold AnsOf at h k
    cases hw : wordsB (textL l) with
    | nil =>
      rw [hw] at h k
      have e : textL o = textL o' := h.1.trans k.1.symm
      exact ⟨by simpa [textL] using e, h.2.trans k.2.symm⟩
    | cons x xs =>
      rw [hw] at h k
      obtain ⟨e, e2⟩ := hd _ _ _ _ _ _ _ h k
      exact ⟨by simpa [textL] using e, e2⟩
  · intro s l o s' h
    unfold AnsOf at h
    cases hw : wordsB (textL l) with
    | nil =>
      rw [hw] at h
      rw [h.2]
      omega
    | cons x xs =>
      rw [hw] at h
      exact hcn _ _ _ _ _ h
  · intro s l o s' h
    unfold AnsOf at h
    cases hw : wordsB (textL l) with
    | nil =>
      rw [hw] at h
      rw [h.1]
      unfold Fits okB
      decide
    | cons x xs =>
      rw [hw] at h
      exact hB _ _ _ _ _ h
end Go.Proofs.YtdjpghgnjcmdnaaGreatDoor

/- What the program's vault has of a subject, and keeps of it. -/
namespace Go.Proofs.YtdjpghgnjcmdnaaGreatDoor
open Go.RowKit Go.Maps
attribute [local go_sem ↓] Go.wp_at_zero Go.wp_at_succ
set_option maxRecDepth 100000 in
set_option maxHeartbeats 1000000 in
theorem of_any (b : Nat) (mo : Option Nat) (sec s : ByteArray) (n : Nat) (σ : Kept) (w : World) (hs : s.size ≤ 60) (hV : ProgV w b mo sec n σ) :
    Calls Tryz.prog 200 #[.pointer (some ⟨b, 0, none⟩), .string s] w fun e w' => e = .returned (.agg #[.int .i64 ((σ s.data.toList).1 : Int), .string (lastB sec σ s)]) ∧ Below w.heap.size w w' := by
  have hkey := key9 s hs
  have c1 : w.cell? ⟨b, 1, none⟩ = some (.map mo) := hV.row.cell 1
  have hb := hV.row.lt
  cases mo with
  | none =>
    have e0 := hV.none rfl
    subst e0
    have hl : lastB sec kept0 s = ByteArray.empty := rfl
    have hn := fun wx => Maps.look_nil (P := Tryz.prog) (w := wx) false law9 Tryz.underlying141 (zero107 wx) hkey
    rw [hl]
    go_enter Tryz.func200, Tryz.ntmps200
    go_wp2
    exact bodyPost_ret (v := .agg #[.int .i64 0, .string ByteArray.empty]) (results_cell_row Tryz.results200 _ _ w.heap.size 145 #[.int .i64 0, .string ByteArray.empty] (0, 0) _ rfl (HasR.new w 145 _) Tryz.underlying145 rfl (by kernel_rfl)) rfl ⟨rfl, (Below.refl _ w).alloc (Nat.le_refl _) _⟩
  | some m =>
    obtain ⟨D, ho, hi⟩ := hV.held m rfl
    have hm := ho.lt
    have hv : ∀ u ps, holdElem u = some (D.atKey (.string s.data.toList) (holdD 0 []), ps) → u = .agg #[.int .i64 ((σ s.data.toList).1 : Int), .string (lastB sec σ s)] := fun u ps h => by
      rw [hi.2] at h
      rw [holdElem_is h, lastB_is]
    generalize lastB sec σ s = k at hv
    generalize (σ s.data.toList).1 = a at hv
    have HV := hide hv
    clear hv hi hV
    go_enter Tryz.func200, Tryz.ntmps200
    go_wp2_with (at_lookup; refine lookup_at _ rfl _ _ 141 rfl 9 145 law9 Tryz.underlying141 holdElem (zero107 _) (holdD 0 []) [] rfl m n D rfl (ho.alloc _) _ _ rfl hkey _ HV.out ?_)
    exact bodyPost_ret (v := .agg #[.int .i64 (a : Int), .string k]) (results_cell_row Tryz.results200 _ _ w.heap.size 145 #[.int .i64 (a : Int), .string k] (0, 0) _ rfl (HasR.new w 145 _) Tryz.underlying145 rfl (by kernel_rfl)) rfl ⟨rfl, (Below.refl _ w).alloc (Nat.le_refl _) _⟩
end Go.Proofs.YtdjpghgnjcmdnaaGreatDoor
