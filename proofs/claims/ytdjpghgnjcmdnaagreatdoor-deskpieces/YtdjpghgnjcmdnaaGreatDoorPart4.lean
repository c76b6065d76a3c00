/- Texts of this proof, one behind the other. -/
import Derived.Deep.RegionHeld3
import Derived.Deep.DrawnRows
import Derived.BigRegion
import Derived.Test.YtdjpghgnjcmdnaaGreatDoorPart3
/- The sum as plain mathematics of words: the schedule of a block, one turn, the mixing of a block. -/
namespace Go.Proofs.YtdjpghgnjcmdnaaGreatDoor
open Go

/-- Eight words. -/
structure St where
  a : BitVec 32
  b : BitVec 32
  c : BitVec 32
  d : BitVec 32
  e : BitVec 32
  f : BitVec 32
  g : BitVec 32
  h : BitVec 32

def tA (s : St) (m : BitVec 32) : BitVec 32 := s.h + (rr s.e 6 ^^^ rr s.e 11 ^^^ rr s.e 25) + (s.e &&& s.f ^^^ ~~~s.e &&& s.g) + m
def tB (s : St) : BitVec 32 := (rr s.a 2 ^^^ rr s.a 13 ^^^ rr s.a 22) + (s.a &&& s.b ^^^ s.a &&& s.c ^^^ s.b &&& s.c)
/-- One turn. -/
def step (s : St) (m : BitVec 32) : St := ⟨tA s m + tB s, s.a, s.b, s.c, s.d + tA s m, s.e, s.f, s.g⟩
def St.add (s t : St) : St := ⟨s.a + t.a, s.b + t.b, s.c + t.c, s.d + t.d, s.e + t.e, s.f + t.f, s.g + t.g, s.h + t.h⟩

theorem N_shr3 (x : BitVec 32) : N x / (8 : Int) = N (x >>> 3) := N_shr x 3
theorem N_shr10 (x : BitVec 32) : N x / (1024 : Int) = N (x >>> 10) := N_shr x 10
/-- Four bytes as a word, the greatest first. -/
def word4 (p q r s : UInt8) : BitVec 32 := bw p <<< 24 ||| bw q <<< 16 ||| bw r <<< 8 ||| bw s
/-- The k-th word of a text. -/
def wordAt (l : List UInt8) (k : Nat) : BitVec 32 := word4 (l.getD (4 * k) 0) (l.getD (4 * k + 1) 0) (l.getD (4 * k + 2) 0) (l.getD (4 * k + 3) 0)
/-- The first k words of a block, the others nought. -/
def sch0 (l : List UInt8) (k : Nat) : List (BitVec 32) := (List.range k).map (wordAt l) ++ List.replicate (64 - k) 0
/-- A later word of the schedule. -/
def nxt (L : List (BitVec 32)) (k : Nat) : BitVec 32 :=
  wd L k + wd L (k + 9) + (rr (wd L (k + 1)) 7 ^^^ rr (wd L (k + 1)) 18 ^^^ (wd L (k + 1)) >>> 3) + (rr (wd L (k + 14)) 17 ^^^ rr (wd L (k + 14)) 19 ^^^ (wd L (k + 14)) >>> 10)
def schT (l : List UInt8) : Nat → List (BitVec 32)
  | 0 => sch0 l 16
  | k + 1 => (schT l k).set (k + 16) (nxt (schT l k) k)
/-- The schedule of a block. -/
def sched (l : List UInt8) : List (BitVec 32) := schT l 48
theorem sch0_len (l : List UInt8) (k : Nat) (h : k ≤ 64) : (sch0 l k).length = 64 := by simp [sch0]; omega
theorem schT_len (l : List UInt8) (k : Nat) : (schT l k).length = 64 := by
  induction k with
  | zero => exact sch0_len l 16 (by omega)
  | succ k ih => simp [schT, ih]
theorem sched_len (l : List UInt8) : (sched l).length = 64 := schT_len l 48
theorem sch0_succ (l : List UInt8) (k : Nat) (h : k < 64) : (sch0 l k).set k (wordAt l k) = sch0 l (k + 1) := by
  unfold sch0
  rw [List.set_append_right _ _ (by simp)]
  have e : 64 - k = (64 - (k + 1)) + 1 := by omega
  rw [e, List.replicate_succ, List.range_succ]
  simp

/-- The eight words in their order. -/
def St.l (s : St) : List (BitVec 32) := [s.a, s.b, s.c, s.d, s.e, s.f, s.g, s.h]
/-- The numbers of the turns. -/
def kNat : List Nat := [1116352408, 1899447441, 3049323471, 3921009573, 961987163, 1508970993, 2453635748, 2870763221, 3624381080, 310598401, 607225278, 1426881987, 1925078388, 2162078206, 2614888103, 3248222580, 3835390401, 4022224774, 264347078, 604807628, 770255983, 1249150122, 1555081692, 1996064986, 2554220882, 2821834349, 2952996808, 3210313671, 3336571891, 3584528711, 113926993, 338241895, 666307205, 773529912, 1294757372, 1396182291, 1695183700, 1986661051, 2177026350, 2456956037, 2730485921, 2820302411, 3259730800, 3345764771, 3516065817, 3600352804, 4094571909, 275423344, 430227734, 506948616, 659060556, 883997877, 958139571, 1322822218, 1537002063, 1747873779, 1955562222, 2024104815, 2227730452, 2361852424, 2428436474, 2756734187, 3204031479, 3329325298]
def kTab : List (BitVec 32) := kNat.map (BitVec.ofNat 32)
theorem kTab_len : kTab.length = 64 := rfl
/-- The state behind k turns. -/
def turnTo (L : List (BitVec 32)) (v : St) : Nat → St
  | 0 => v
  | k + 1 => step (turnTo L v k) (wd L k + wd kTab k)
/-- Words added place by place, the first k of them. -/
def addTo (x y : List (BitVec 32)) : Nat → List (BitVec 32)
  | 0 => x
  | k + 1 => (addTo x y k).set k (wd (addTo x y k) k + wd y k)
theorem addTo_len (x y : List (BitVec 32)) (k : Nat) : (addTo x y k).length = x.length := by
  induction k with
  | zero => rfl
  | succ k ih => simp [addTo, ih]
theorem addTo_eight (s t : St) : addTo s.l t.l 8 = (s.add t).l := rfl
/-- A block mixed into a state. -/
def mixB (s : St) (l : List UInt8) : St := s.add (turnTo (sched l) s 64)
end Go.Proofs.YtdjpghgnjcmdnaaGreatDoor

/- One turn of the program's own mixing: what 'round' comes to, for every state and word. -/
namespace Go.Proofs.YtdjpghgnjcmdnaaGreatDoor
open Go.RowKit
attribute [local go_sem] N_xor N_and N_addm N_add3 N_add4 N_add12 N_add13 N_not

/-- Eight words as a value. -/
def St.v (s : St) : Value := .agg #[.int .u32 (N s.a), .int .u32 (N s.b), .int .u32 (N s.c), .int .u32 (N s.d), .int .u32 (N s.e), .int .u32 (N s.f), .int .u32 (N s.g), .int .u32 (N s.h)]

set_option maxRecDepth 100000 in
set_option maxHeartbeats 400000 in
theorem round_any (s : St) (m : BitVec 32) (w : World) :
    Calls Tryz.prog 185 #[s.v, .int .u32 (N m)] w fun e w' => e = .returned (step s m).v ∧ Below w.heap.size w w' := by
  obtain ⟨a, b, c, d, x, f, g, y⟩ := s
  unfold St.v
  go_enter Tryz.func185, Tryz.ntmps185
  go_wp2
  go_quiet (fail)
  go_wp2
  go_quiet (fail)
  go_wp2_with (go_at_call 221; refine (right_any _ _ _ (by decide)).mono ?_; rintro e w' ⟨rfl, rfl⟩)
  refine bodyPost_ret (v := (step ⟨a, b, c, d, x, f, g, y⟩ m).v) (by simp [results, Tryz.results185, go_sem, St.v, step, tA, tB]) rfl ⟨rfl, ?_⟩
  iterate 8 refine Below.setCell ?_ (by simp) _
  exact below_drewN (((Below.refl _ _).alloc (Nat.le_refl _) _).alloc (by simp) _) _
theorem v_row (s : St) : s.v = .agg #[.int .u32 (N s.a), .int .u32 (N s.b), .int .u32 (N s.c), .int .u32 (N s.d), .int .u32 (N s.e), .int .u32 (N s.f), .int .u32 (N s.g), .int .u32 (N s.h)] := rfl
end Go.Proofs.YtdjpghgnjcmdnaaGreatDoor

/- The schedule of a block: what the program's own function comes to, for every block of 64 bytes. -/
namespace Go.Proofs.YtdjpghgnjcmdnaaGreatDoor
open Go.RowKit
attribute [local go_sem] N_xor N_and N_or N_add N_addm N_add3 N_add4 N_add12 N_add13 N_not N_byte N_shl24 N_shl16 N_shl8 N_shr3 N_shr10
attribute [local go_sem ↓] Go.wp_at_zero Go.wp_at_succ
theorem word_ext (s : ByteArray) (k : Nat) (h0 : 0 < (s.extract (4 * k) (4 * k + 4)).size) (h1 : 1 < (s.extract (4 * k) (4 * k + 4)).size) (h2 : 2 < (s.extract (4 * k) (4 * k + 4)).size) (h3 : 3 < (s.extract (4 * k) (4 * k + 4)).size) :
    bw ((s.extract (4 * k) (4 * k + 4))[0]'h0) <<< 24 ||| bw ((s.extract (4 * k) (4 * k + 4))[1]'h1) <<< 16 ||| bw ((s.extract (4 * k) (4 * k + 4))[2]'h2) <<< 8 ||| bw ((s.extract (4 * k) (4 * k + 4))[3]'h3) = wordAt s.data.toList k := by
  rw [ext_at, ext_at, ext_at, ext_at]; rfl
set_option maxRecDepth 100000 in
set_option maxHeartbeats 400000 in
theorem schedule_any (s : ByteArray) (hs : s.size = 64) (w : World) :
    Calls Tryz.prog 184 #[.string s] w fun e w' => e = .returned (.agg (rowW (sched s.data.toList))) ∧ Below w.heap.size w w' := by
  go_enter Tryz.func184, Tryz.ntmps184
  go_wp2
  go_loopw [9] (fun i wr => ∃ k : Nat, k ≤ 16 ∧ i = .int .i64 k ∧ HasW wr (w.heap.size + 1) 245 (sch0 s.data.toList k) ∧ HasW wr w.heap.size 245 zs ∧ wr.heap.size = w.heap.size + 2 ∧ Below w.heap.size w wr)
     (fun i _ => 16 - (intOf i).toNat)
  case atStart =>
    rw [zeros64]
    exact ⟨0, by omega, rfl, HasR.new2 _ _ _ _, (HasR.new w 245 (rowW zs)).alloc _, by simp, ((Below.refl _ _).alloc (Nat.le_refl _) _).alloc (by simp) _⟩
  case round =>
    obtain ⟨k, hk, rfl, h1, h0, hsz, hb⟩ := hrel
    by_cases hlt : k < 16
    · have hbs : (s.extract (4 * k) (4 * k + 4)).size = 4 := by simp; omega
      have hk64 : (k : Int) < 64 := by omega
      have hf := h1.free k
      have hc := h1.cell k (by rw [sch0_len _ _ (by omega)]; omega)
      have hset : HasW (wr.setCell ⟨w.heap.size + 1, k, none⟩ (.int .u32 (N (wordAt s.data.toList k)))) (w.heap.size + 1) 245 (sch0 s.data.toList (k + 1)) := by
        rw [← sch0_succ _ _ (by omega)]; exact h1.set k _
      have h0' := h0.other ⟨w.heap.size + 1, k, none⟩ (by simp) (.int .u32 (N (wordAt s.data.toList k)))
      have hb' := hb.setCell (p := ⟨w.heap.size + 1, k, none⟩) (by simp) (.int .u32 (N (wordAt s.data.toList k)))
      rw [← word_ext s k (by omega) (by omega) (by omega) (by omega)] at hset h0' hb'
      have HS := hide hset
      have H0 := hide h0'
      have HB := hide hb'
      clear h1 h0 hset h0' hb' hb
      go_wp2
      go_region
      go_wp2
      go_roundw
      case rel =>
        try simp only [N_shl24, N_shl16, N_shl8, N_or]
        exact ⟨k + 1, by omega, by go_num, (HS.out).drew, (H0.out).drew, by simpa using hsz, (HB.out).drew⟩
      case measure => simp [intOf]; omega
    · obtain rfl : k = 16 := by omega
      go_wp2
      go_loopw [40] (fun i wx => ∃ k : Nat, k ≤ 48 ∧ i = .int .i64 k ∧ HasW wx (w.heap.size + 1) 245 (schT s.data.toList k) ∧ HasW wx w.heap.size 245 zs ∧ wx.heap.size = w.heap.size + 2 ∧ Below w.heap.size w wx)
        (fun i _ => 48 - (intOf i).toNat)
      case atStart => exact ⟨0, by omega, rfl, h1, h0, hsz, hb⟩
      case round =>
        clear h1 h0 hsz hb hk hlt
        obtain ⟨k, hk, rfl, h1, h0, hsz, hb⟩ := hrel
        by_cases hlt : k < 48
        · have hl := schT_len s.data.toList k
          have hc0 := h1.cell k (by omega)
          have hc1 := h1.cell (k + 1) (by omega)
          have hc9 := h1.cell (k + 9) (by omega)
          have hc14 := h1.cell (k + 14) (by omega)
          have hc16 := h1.cell (k + 16) (by omega)
          have hf16 := h1.free (k + 16)
          have hi0 : (0 : Int) ≤ (k : Int) := by omega
          have hi1 : (k : Int) + 16 < 64 := by omega
          have hi2 : (k : Int) + 9 < 64 := by omega
          have hi3 : (k : Int) < 64 := by omega
          have hz9 : (0 : Int) ≤ (k : Int) + 9 := by omega
          have hz16 : (0 : Int) ≤ (k : Int) + 16 := by omega
          have ht9 : ((k : Int) + 9).toNat = k + 9 := by omega
          have ht16 : ((k : Int) + 16).toNat = k + 16 := by omega
          have hw9 : IntKind.i64.wrap ((k : Int) + 9) = (k : Int) + 9 := by rw [IntKind.wrap_i64]; omega
          have hw16 : IntKind.i64.wrap ((k : Int) + 16) = (k : Int) + 16 := by rw [IntKind.wrap_i64]; omega
          have HS := hide (h1.set (k + 16) (nxt (schT s.data.toList k) k))
          have H0 := hide (h0.other ⟨w.heap.size + 1, k + 16, none⟩ (by simp) (.int .u32 (N (nxt (schT s.data.toList k) k))))
          have HB := hide (hb.setCell (p := ⟨w.heap.size + 1, k + 16, none⟩) (by simp) (.int .u32 (N (nxt (schT s.data.toList k) k))))
          clear h1 h0 hb
          go_wp2
          go_quiet (fail)
          go_wp2
          go_region_held3 (fun w' => w'.cell? ⟨w.heap.size + 1, k, none⟩ = some (.int .u32 (N (wd (schT s.data.toList k) k))) ∧ w'.cell? ⟨w.heap.size + 1, k + 9, none⟩ = some (.int .u32 (N (wd (schT s.data.toList k) (k + 9))))) (first | go_keep | exact ⟨keep_cell hc0 (by omega), keep_cell hc9 (by omega)⟩) (first | (go_at_call 221; refine (right_any _ _ _ (by decide)).mono ?_; rintro e w' ⟨rfl, rfl⟩))
          all_goals (
            go_wp2
            go_roundw
            case rel => (repeat apply Exists.intro); exact ⟨⟨k + 1, by omega, by go_num, HS.out.drewN _, H0.out.drewN _, by simpa using hsz, below_drewN HB.out _⟩, rfl⟩
            case measure => simp [intOf]; omega)
        · obtain rfl : k = 48 := by omega
          go_wp2_with (first
            | (refine wpList_load_row rfl 245 _ rfl (w.heap.size + 1) rfl 245 (rowW (schT s.data.toList 48)) (0, 0) _ h1 Tryz.underlying245 rfl (by rw [rowW_size, schT_len]; kernel_rfl) ?_)
            | (refine wpList_store_mid rfl 245 _ _ rfl w.heap.size 0 (rowW (schT s.data.toList 48)) rfl rfl (by rw [rowW_size, schT_len]; exact HasR.there h0) (by rw [rowW_size, schT_len]; kernel_rfl) (rowW_one _) ?_))
          have hw : HasR (wr.setCells w.heap.size 0 (rowW (schT s.data.toList 48)).toList) w.heap.size 245 (rowW (schT s.data.toList 48)) := by
            have := HasR.whole h0 (rowW (schT s.data.toList 48)).toList (by rw [Array.length_toList, rowW_size, rowW_size, schT_len, zs_len])
            simpa using this
          exact bodyPost_ret (v := .agg (rowW (sched s.data.toList))) (results_cell_row Tryz.results184 _ _ w.heap.size 245 (rowW (schT s.data.toList 48)) (0, 0) _ rfl hw Tryz.underlying245 rfl (by rw [rowW_size, schT_len]; kernel_rfl)) rfl ⟨rfl, below_setCells _ _ _ _ _ _ hb (Nat.le_refl _)⟩
end Go.Proofs.YtdjpghgnjcmdnaaGreatDoor

/- A block mixed into a state: what the program's own 'mix' comes to. -/
namespace Go.Proofs.YtdjpghgnjcmdnaaGreatDoor
open Go.RowKit
attribute [local go_sem] N_add N_addm size_setCells
attribute [local go_sem ↓] Go.wp_at_zero Go.wp_at_succ
/-- The package's own table lies where it was laid. -/
def TabK (w : World) : Prop := ∀ i, i < 64 → w.cell? ⟨3, i, none⟩ = some (.int .u32 (N (wd kTab i)))
theorem round_lit (s : St) (m : BitVec 32) (w : World) :
    Calls Tryz.prog 185 #[.agg #[.int .u32 (N s.a), .int .u32 (N s.b), .int .u32 (N s.c), .int .u32 (N s.d), .int .u32 (N s.e), .int .u32 (N s.f), .int .u32 (N s.g), .int .u32 (N s.h)], .int .u32 (N m)] w fun e w' =>
      e = .returned (.agg #[.int .u32 (N (step s m).a), .int .u32 (N (step s m).b), .int .u32 (N (step s m).c), .int .u32 (N (step s m).d), .int .u32 (N (step s m).e), .int .u32 (N (step s m).f), .int .u32 (N (step s m).g), .int .u32 (N (step s m).h)]) ∧ Below w.heap.size w w' := round_any s m w
theorem HasW.eight {w : World} {B : Nat} {t : TypeId} {s : St} (h : HasW w B t s.l) : w.cell? ⟨B, 0, none⟩ = some (.int .u32 (N s.a)) ∧ w.cell? ⟨B, 1, none⟩ = some (.int .u32 (N s.b)) ∧ w.cell? ⟨B, 2, none⟩ = some (.int .u32 (N s.c)) ∧ w.cell? ⟨B, 3, none⟩ = some (.int .u32 (N s.d)) ∧ w.cell? ⟨B, 4, none⟩ = some (.int .u32 (N s.e)) ∧ w.cell? ⟨B, 5, none⟩ = some (.int .u32 (N s.f)) ∧ w.cell? ⟨B, 6, none⟩ = some (.int .u32 (N s.g)) ∧ w.cell? ⟨B, 7, none⟩ = some (.int .u32 (N s.h)) :=
  ⟨HasR.cell h 0, HasR.cell h 1, HasR.cell h 2, HasR.cell h 3, HasR.cell h 4, HasR.cell h 5, HasR.cell h 6, HasR.cell h 7⟩
theorem HasW.eightFree {w : World} {B : Nat} {t : TypeId} {l : List (BitVec 32)} (h : HasW w B t l) : w.frozen? ⟨B, 0, none⟩ = false ∧ w.frozen? ⟨B, 1, none⟩ = false ∧ w.frozen? ⟨B, 2, none⟩ = false ∧ w.frozen? ⟨B, 3, none⟩ = false ∧ w.frozen? ⟨B, 4, none⟩ = false ∧ w.frozen? ⟨B, 5, none⟩ = false ∧ w.frozen? ⟨B, 6, none⟩ = false ∧ w.frozen? ⟨B, 7, none⟩ = false :=
  ⟨h.free 0, h.free 1, h.free 2, h.free 3, h.free 4, h.free 5, h.free 6, h.free 7⟩
theorem TabK.lt {w : World} (h : TabK w) : 3 < w.heap.size := block_lt_of_cell (h 0 (by omega))
theorem TabK.below {w w' : World} {B : Nat} (h : TabK w) (hb : Below B w w') (hB : 3 < B) : TabK w' := fun i hi => by
  rw [hb.cell (p := ⟨3, i, none⟩) hB]; exact h i hi
set_option maxRecDepth 100000 in
set_option maxHeartbeats 1000000 in
theorem mix_any (st : St) (s : ByteArray) (hs : s.size = 64) (w : World) (hK : TabK w) :
    Calls Tryz.prog 136 #[st.v, .string s] w fun e w' => e = .returned (mixB st s.data.toList).v ∧ Below w.heap.size w w' := by
  have h0 := hK.lt
  have hc := schedule_any s hs
  have hlen := sched_len s.data.toList
  have hM : mixB st s.data.toList = st.add (turnTo (sched s.data.toList) st 64) := rfl
  rw [hM, v_row]
  clear hM
  generalize sched s.data.toList = L at hc hlen ⊢
  go_enter Tryz.func136, Tryz.ntmps136
  go_wp2_with fail
  refine (hc _).mono ?_
  rintro e w1 ⟨rfl, hb1⟩
  clear hc
  have hA : HasR w1 w.heap.size 150 #[.int .u32 (N st.a), .int .u32 (N st.b), .int .u32 (N st.c), .int .u32 (N st.d), .int .u32 (N st.e), .int .u32 (N st.f), .int .u32 (N st.g), .int .u32 (N st.h)] :=
    ((HasR.new w 150 _).alloc _).below hb1 (by simp; omega)
  have hZ : HasR w1 (w.heap.size + 1) 150 #[.int .u32 0, .int .u32 0, .int .u32 0, .int .u32 0, .int .u32 0, .int .u32 0, .int .u32 0, .int .u32 0] :=
    (HasR.new2 w _ 150 _).below hb1 (by simp)
  have hsz1 : w.heap.size + 2 ≤ w1.heap.size := by have := hb1.size; simpa using this
  have hbw : Below w.heap.size w w1 := (((Below.refl _ _).alloc (Nat.le_refl _) _).alloc (by simp) _).trans (hb1.mono (by simp; omega))
  have hK1 := hK.below hbw h0
  clear hb1
  go_wp2_with (first
    | ((with_reducible refine store_row 245 w1.heap.size L 245 (rowW zs) ?_ ?_ ?_ ?_ ?_ ?_); rfl; rfl; exact HasR.new w1 245 (rowW zs); (rw [rowW_size, hlen, zs_len]); (rw [hlen]; kernel_rfl); rw [zeros64]; generalize hW2 : World.setCells _ _ _ _ = W2; have hS2 : HasW W2 w1.heap.size 245 L := whole_words (HasR.new w1 245 (rowW zs)) hW2 (by rw [hlen, rowW_size, zs_len]); have hA2 : HasW W2 w.heap.size 150 st.l := HasR.others' (hA.alloc _) hW2 (by omega); have hZ2 := HasR.others' (hZ.alloc (.cells (rowW zs) 245)) hW2 (by omega); have hsz2 : W2.heap.size = w1.heap.size + 1 := (by rw [← hW2, size_setCells]; simp); have hb2 : Below w.heap.size w W2 := below_setCells' (hbw.alloc (by omega) _) hW2 (by omega); clear hW2)
    | ((with_reducible refine load_row 150 w.heap.size st.l 150 ?_ ?_ Tryz.underlying150 ?_ ?_ ?_); rfl; exact hA2; rfl; kernel_rfl)
    | ((with_reducible refine store_row 150 (w1.heap.size + 1) st.l 150 _ ?_ ?_ (HasR.new' hsz2 150 _) ?_ ?_ ?_); rfl; rfl; rfl; kernel_rfl; generalize hW3 : World.setCells _ _ _ _ = W3; have hV3 : HasW W3 (w1.heap.size + 1) 150 st.l := whole_words (HasR.new' hsz2 150 _) hW3 rfl; have hS3 : HasW W3 w1.heap.size 245 L := HasR.others' (hS2.alloc _) hW3 (by omega); have hA3 : HasW W3 w.heap.size 150 st.l := HasR.others' (hA2.alloc _) hW3 (by omega); have hZ3 := HasR.others' (hZ2.alloc _) hW3 (by omega); have hb3 : Below w.heap.size w W3 := below_setCells' (hb2.alloc (by omega) _) hW3 (by omega); clear hW3 hS2 hA2 hZ2 hb2 hsz2))
  rename_i W2 W3
  clear hA hZ hbw hK1
  go_loopw [12] (fun i wr => ∃ k : Nat, k ≤ 64 ∧ i = .int .i64 k ∧ HasW wr w1.heap.size 245 L ∧ HasW wr w.heap.size 150 st.l ∧ HasR wr (w.heap.size + 1) 150 #[.int .u32 0, .int .u32 0, .int .u32 0, .int .u32 0, .int .u32 0, .int .u32 0, .int .u32 0, .int .u32 0] ∧ HasW wr (w1.heap.size + 1) 150 (turnTo L st k).l ∧ Below w.heap.size w wr)
    (fun i _ => 64 - (intOf i).toNat)
  case atStart => exact ⟨0, by omega, rfl, by assumption, by assumption, by assumption, by assumption, by assumption⟩
  case round =>
    obtain ⟨k, hk, rfl, hS, hA, hZ, hV, hb⟩ := hrel
    by_cases hlt : k < 64
    · have hcS := hS.cell k (by omega)
      have hcK := hK.below hb h0 k hlt
      obtain ⟨c0, c1, c2, c3, c4, c5, c6, c7⟩ := hV.eight
      have hi3 : (k : Int) < 64 := by omega
      have hi0 : (0 : Int) ≤ (k : Int) := by omega
      go_wp2_with fail
      go_region_with (first | (go_at_call 185; refine (round_lit (turnTo L st k) (wd L k + wd kTab k) _).mono ?_; rintro e w' ⟨rfl, hb'⟩; have hV' : HasW w' (w1.heap.size + 1) 150 (turnTo L st k).l := (hV.drew.below hb' hV.lt); obtain ⟨d0, d1, d2, d3, d4, d5, d6, d7⟩ := hV'.eight; obtain ⟨f0, f1, f2, f3, f4, f5, f6, f7⟩ := hV'.eightFree))
      all_goals (
        go_wp2
        go_roundw
        case rel =>
          have hlA := hA.lt
          first
            | exact ⟨k + 1, by omega, by go_num, HasR.other8 (hS.drew.below hb' hS.lt) (by omega) _ _ _ _ _ _ _ _, HasR.other8 (hA.drew.below hb' hA.lt) (by omega) _ _ _ _ _ _ _ _, HasR.other8 (hZ.drew.below hb' hZ.lt) (by omega) _ _ _ _ _ _ _ _, HasR.set8 hV' rfl _ _ _ _ _ _ _ _, below_set8 (hb.drew.trans (hb'.mono (Nat.le_of_lt hlA))) (by omega) _ _ _ _ _ _ _ _⟩
            | ((repeat apply Exists.intro); exact ⟨⟨k + 1, by omega, by go_num, HasR.other8 (hS.drew.below hb' hS.lt) (by omega) _ _ _ _ _ _ _ _, HasR.other8 (hA.drew.below hb' hA.lt) (by omega) _ _ _ _ _ _ _ _, HasR.other8 (hZ.drew.below hb' hZ.lt) (by omega) _ _ _ _ _ _ _ _, HasR.set8 hV' rfl _ _ _ _ _ _ _ _, below_set8 (hb.drew.trans (hb'.mono (Nat.le_of_lt hlA))) (by omega) _ _ _ _ _ _ _ _⟩, rfl⟩)
        case measure => simp [intOf]; omega)
    · obtain rfl : k = 64 := by omega
      have hKr := hK.below hb h0
      clear hS hK hlt hk
      go_wp2
      generalize hvt : turnTo L st 64 = vt at hV ⊢
      have HVT := hide hvt
      clear hvt
      go_loopw [25] (fun i wx => ∃ k : Nat, k ≤ 8 ∧ i = .int .i64 k ∧ HasW wx w.heap.size 150 (addTo st.l vt.l k) ∧ HasR wx (w.heap.size + 1) 150 #[.int .u32 0, .int .u32 0, .int .u32 0, .int .u32 0, .int .u32 0, .int .u32 0, .int .u32 0, .int .u32 0] ∧ HasW wx (w1.heap.size + 1) 150 vt.l ∧ Below w.heap.size w wx)
        (fun i _ => 8 - (intOf i).toNat)
      case atStart => exact ⟨0, by omega, rfl, hA, hZ, hV, hb⟩
      case round =>
        clear hA hZ hV hb
        obtain ⟨k, hk, rfl, hA, hZ, hV, hb⟩ := hrel
        by_cases hlt : k < 8
        · have hcA := hA.cell k (by rw [addTo_len]; exact hlt)
          have hcV := hV.cell k hlt
          have hfA := hA.free k
          have hi3 : (k : Int) < 8 := by omega
          have hi0 : (0 : Int) ≤ (k : Int) := by omega
          go_wp2
          go_region
          all_goals (
            go_wp2
            go_roundw
            case rel =>
              first
                | exact ⟨k + 1, by omega, by go_num, (hA.set k _).drew, (hZ.other ⟨w.heap.size, k, none⟩ (by simp) _).drew, (hV.other ⟨w.heap.size, k, none⟩ (by simp; omega) _).drew, (hb.setCell (p := ⟨w.heap.size, k, none⟩) (Nat.le_refl _) _).drew⟩
                | ((repeat apply Exists.intro); exact ⟨⟨k + 1, by omega, by go_num, (hA.set k _).drew, (hZ.other ⟨w.heap.size, k, none⟩ (by simp) _).drew, (hV.other ⟨w.heap.size, k, none⟩ (by simp; omega) _).drew, (hb.setCell (p := ⟨w.heap.size, k, none⟩) (Nat.le_refl _) _).drew⟩, rfl⟩)
            case measure => simp [intOf]; omega)
        · obtain rfl : k = 8 := by omega
          rw [addTo_eight] at hA
          generalize hsv : st.add vt = sv at hA ⊢
          have HSV := hide hsv
          clear hsv
          go_wp2_with (first
            | ((with_reducible refine load_row 150 w.heap.size sv.l 150 ?_ ?_ Tryz.underlying150 ?_ ?_ ?_); rfl; exact hA; rfl; kernel_rfl)
            | ((with_reducible refine store_row 150 (w.heap.size + 1) sv.l 150 _ ?_ ?_ hZ ?_ ?_ ?_); rfl; rfl; rfl; kernel_rfl; generalize hW4 : World.setCells _ _ _ _ = W4; have hR4 : HasW W4 (w.heap.size + 1) 150 sv.l := whole_words hZ hW4 rfl; have hb4 : Below w.heap.size w W4 := below_setCells' hb hW4 (by omega); clear hW4))
          exact bodyPost_ret (v := sv.v) (results_cell_row Tryz.results136 _ _ (w.heap.size + 1) 150 (rowW sv.l) (0, 0) _ rfl hR4 Tryz.underlying150 rfl (by kernel_rfl)) rfl ⟨by rw [HVT.out, HSV.out], hb4⟩
end Go.Proofs.YtdjpghgnjcmdnaaGreatDoor
