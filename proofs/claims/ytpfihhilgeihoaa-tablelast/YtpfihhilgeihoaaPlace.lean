/- Where rows stand: a place of two names as the key of a map. -/
import Derived.Test.YtpfihhilgeihoaaRows
import Derived.Test.YtpfihhilgeihoaaStirred
import Derived.Test.YtpfihhilgeihoaaOrder
import Derived.DeepKeys4
namespace Go.Proofs.Ytpfihhilgeihoaa
open Go.RowKit Go.Maps
theorem laidOut : laidOutB Try.prog = true := by kernel_rfl
theorem row69 : (69 : TypeId) < Try.prog.types.size := of_decide_eq_true (by kernel_rfl)
theorem deep69 : Try.prog.keyType 69 = true := by kernel_rfl
theorem wide69 : (match Try.prog.underlying 69 with | some (.array _ _) | some (.struct _) => true | _ => false) = true := by rw [Try.underlying69]
set_option maxRecDepth 100000 in
theorem law69 : Keyed Try.prog 69 := Keyed.of_law (deep_law_laid laidOut (m := 2) (by omega) row69 (by kernel_rfl) wide69)
theorem cells69 : Try.prog.cellsOf 69 = 2 := by kernel_rfl
theorem cells9 : Try.prog.cellsOf 9 = 1 := by kernel_rfl
/-- What a place reads as. -/
def klit (t r : ByteArray) : Lit := .string (keyBytes [.string t.data.toList, .string r.data.toList])
/-- A struct of two texts as a key, in whichever program. -/
theorem keyOf_two {P : Program} {k n : TypeId} {f g : Field} (hk : P.underlying k = some (.struct #[f, g])) (hf : P.underlying f.type = some .string) (hg : P.underlying g.type = some .string) (hc : P.cellsOf k = 2) (cf : P.cellsOf f.type = 1) (cg : P.cellsOf g.type = 1)
    (of : f.offset = 0) (og : g.offset = 1) (nf : (f.name != "_") = true) (ng : (g.name != "_") = true) (hn : P.types.size = n + 1) (hT : P.keyType k = true) (t r : ByteArray) (ht : t.size ≤ maxLen) (hr : r.size ≤ maxLen) :
    keyOf P k (.agg #[.string t, .string r]) = some (klit t r) := by
  simp [keyOf, hk, hT, Value.formed, hc, hn, Program.keyLits, Value.cells, hf, hg, cf, cg, of, og, nf, ng, ht, hr, klit]
theorem size138 : Try.prog.types.size = 137 + 1 := by kernel_rfl
theorem key69 (t r : ByteArray) (ht : t.size ≤ 60) (hr : r.size ≤ 60) : keyOf Try.prog 69 (.agg #[.string t, .string r]) = some (klit t r) :=
  keyOf_two Try.underlying69 Try.underlying9 Try.underlying9 cells69 cells9 cells9 rfl rfl rfl rfl size138 deep69 t r (by unfold maxLen; omega) (by unfold maxLen; omega)
theorem lits_string {P : Program} {t : TypeId} {d : Nat} {a : Value} {L : List Lit} (ht : P.underlying t = some .string) (h : P.keyLits (d + 1) t [a] = some L) : ∃ s, a = .string s := by
  unfold Program.keyLits at h
  rw [ht] at h
  cases a <;> simp at h
  exact ⟨_, rfl⟩
theorem keyOf_two_inv {P : Program} {k n : TypeId} {f g : Field} (hk : P.underlying k = some (.struct #[f, g])) (hf : P.underlying f.type = some .string) (hg : P.underlying g.type = some .string) (hc : P.cellsOf k = 2) (cf : P.cellsOf f.type = 1) (cg : P.cellsOf g.type = 1)
    (of : f.offset = 0) (og : g.offset = 1) (hn : P.types.size = n + 1) {v : Value} {l : Lit} (h : keyOf P k v = some l) :
    ∃ p : ByteArray × ByteArray, v = .agg #[.string p.1, .string p.2] := by
  obtain ⟨xs, L, rfl, hL, _⟩ := keyOf_top (by rw [hk]) h
  obtain ⟨xs⟩ := xs
  rw [hn] at hL
  unfold Program.keyLits at hL
  rw [hk] at hL
  simp only [hc] at hL
  split at hL
  · rename_i h2
    match xs, h2.1 with
    | [a, b], _ =>
      rw [Option.map_eq_some_iff] at hL
      obtain ⟨A, hA, _⟩ := hL
      simp only [List.mapM_cons, List.mapM_nil, cf, cg, of, og, List.drop_zero, List.take_succ_cons, List.take_zero, List.drop_succ_cons] at hA
      cases h3 : P.keyLits (n + 1) f.type [a] with
      | none => rw [h3] at hA; cases hA
      | some A1 =>
        cases h4 : P.keyLits (n + 1) g.type [b] with
        | none => rw [h3, h4] at hA; cases hA
        | some A2 =>
          obtain ⟨s1, rfl⟩ := lits_string hf h3
          obtain ⟨s2, rfl⟩ := lits_string hg h4
          exact ⟨⟨s1, s2⟩, rfl⟩
  · cases hL
theorem key69_inv {v : Value} {l : Lit} (h : keyOf Try.prog 69 v = some l) : ∃ p : ByteArray × ByteArray, v = .agg #[.string p.1, .string p.2] :=
  keyOf_two_inv Try.underlying69 Try.underlying9 Try.underlying9 cells69 cells9 cells9 rfl rfl size138 h
theorem klit_inj {t r t' r' : ByteArray} (ht : t.size ≤ 60) (hr : r.size ≤ 60) (ht' : t'.size ≤ 60) (hr' : r'.size ≤ 60) (h : klit t r = klit t' r') : t = t' ∧ r = r' := by
  have k1 := key69 t r ht hr
  have k2 := key69 t' r' ht' hr'
  rw [← h] at k2
  have := law69.inj k1 k2
  simp at this
  exact this
theorem klit_key (t r : ByteArray) : WideAt.IsKeyLit (klit t r) := trivial
end Go.Proofs.Ytpfihhilgeihoaa
