/- Texts of this proof, one behind the other. -/
import Derived.WalkKit
import Derived.WalkSpells
import Derived.WalkLawsBesides
import Derived.Deep.RegionHeld3
import Derived.Deep.DrawnRows
import Derived.Deep.QuietTactic
import Derived.BigQuiet
import Derived.Test.YtedcbjefkhgiiabGreatDoorPart4
/- The document's own test of bounds. -/
namespace Go.Proofs.YtedcbjefkhgiiabGreatDoor
open Go.RowKit
end Go.Proofs.YtedcbjefkhgiiabGreatDoor

/- Who may be called so: the program's own Name and the document's come to one answer. -/
namespace Go.Proofs.YtedcbjefkhgiiabGreatDoor
open Go.RowKit
/-- A letter; a digit. -/
def letB (c : UInt8) : Bool := decide (97 ≤ c.toNat) && decide (c.toNat ≤ 122)
def digB (c : UInt8) : Bool := decide (48 ≤ c.toNat) && decide (c.toNat ≤ 57)
/-- What may stand at a place of a name. -/
def okAt (l : List UInt8) (i : Nat) : Bool := letB (l.getD i 0) || (!decide (i = 0) && digB (l.getD i 0))
/-- A name. -/
def nameB (l : List UInt8) : Bool := (decide (1 ≤ l.length) && decide (l.length ≤ 10)) && (List.range l.length).all (okAt l)
theorem nameB_bad {l : List UInt8} {k : Nat} (h : k < l.length) (hk : okAt l k = false) : nameB l = false := by
  unfold nameB
  have : (List.range l.length).all (okAt l) = false := by
    rw [List.all_eq_false]
    exact ⟨k, List.mem_range.2 h, by rw [hk]; decide⟩
  rw [this, Bool.and_false]
theorem nameB_all {l : List UInt8} (h : ∀ j, j < l.length → okAt l j = true) : nameB l = (decide (1 ≤ l.length) && decide (l.length ≤ 10)) := by
  unfold nameB
  have : (List.range l.length).all (okAt l) = true := List.all_eq_true.2 fun x hx => h x (List.mem_range.1 hx)
  rw [this, Bool.and_true]
set_option maxRecDepth 100000 in
set_option maxHeartbeats 400000 in
theorem letter_any (c : UInt8) (w : World) : Calls Tryz.prog 110 #[.int .u8 (c.toNat : Int)] w fun e w' => e = .returned (.bool (letB c)) ∧ w' = w := by
  unfold letB
  by_cases h1 : 97 ≤ c.toNat
  · have d1 : decide ((97 : Int) ≤ (c.toNat : Int)) = true := by simp; omega
    go_enter Tryz.func110, Tryz.ntmps110
    go_wp2
    go_ret
    exact ⟨ret_val (by simp [h1]; omega), rfl⟩
  · have d1 : decide ((97 : Int) ≤ (c.toNat : Int)) = false := by simp; omega
    go_enter Tryz.func110, Tryz.ntmps110
    go_wp2
    go_ret
    exact ⟨ret_val (by simp [h1]), rfl⟩
set_option maxRecDepth 100000 in
set_option maxHeartbeats 400000 in
theorem digit_any (c : UInt8) (w : World) : Calls Tryz.prog 111 #[.int .u8 (c.toNat : Int)] w fun e w' => e = .returned (.bool (digB c)) ∧ w' = w := by
  unfold digB
  by_cases h1 : 48 ≤ c.toNat
  · have d1 : decide ((48 : Int) ≤ (c.toNat : Int)) = true := by simp; omega
    go_enter Tryz.func111, Tryz.ntmps111
    go_wp2
    go_ret
    exact ⟨ret_val (by simp [h1]; omega), rfl⟩
  · have d1 : decide ((48 : Int) ≤ (c.toNat : Int)) = false := by simp; omega
    go_enter Tryz.func111, Tryz.ntmps111
    go_wp2
    go_ret
    exact ⟨ret_val (by simp [h1]), rfl⟩
end Go.Proofs.YtedcbjefkhgiiabGreatDoor
