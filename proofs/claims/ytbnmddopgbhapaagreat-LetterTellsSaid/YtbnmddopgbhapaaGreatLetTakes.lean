/-
  A region that draws its order: many operations that only reckon, taken first, at once: each fact is closed, and the kernel reckons it.
-/
import Derived.Test.YtbnmddopgbhapaaGreatLetFormsA
namespace Go.Proofs.YtbnmddopgbhapaaGreat
open Go.RowKit

def o0 : Oper := { dst := none, op := .move (.tmp 0), type := 0, pos := "", after := #[], guard := none }
def actsOf (ops : Array Oper) : List (Nat × Value) → Act → Act
  | [], a => a
  | (i, v) :: L, a => actsOf ops L (a.put (ops.getD i o0).dst v)
def listedOf : List (Nat × Value) → Array Bool → Array Bool
  | [], l => l
  | (i, _) :: L, l => listedOf L (l.setIfInBounds i true)
def TakesOk (P : Program) (ops : Array Oper) : List (Nat × Value) → Array Bool → Act → Prop
  | [], _, _ => True
  | (i, v) :: L, listed, a => (ops[i]? = some (ops.getD i o0) ∧ Region.free .any ops listed i = true ∧ (Region.ready .any ops listed).contains i = true ∧ Region.wanted (ops.getD i o0) (yielded ops a.tmps) = true ∧ ∀ w, (execOp a.eval (ops.getD i o0)).run P w = .ok (.value v) w) ∧
      TakesOk P ops L (listed.setIfInBounds i true) (a.put (ops.getD i o0).dst v)
theorem takes_nil {P : Program} {ops : Array Oper} {listed : Array Bool} {a : Act} : TakesOk P ops [] listed a := True.intro
theorem takes_cons {P : Program} {ops : Array Oper} {i : Nat} {v : Value} {L : List (Nat × Value)} {listed : Array Bool} {a : Act} (h1 : ops[i]? = some (ops.getD i o0)) (h2 : Region.free .any ops listed i = true) (h3 : (Region.ready .any ops listed).contains i = true)
    (h4 : Region.wanted (ops.getD i o0) (yielded ops a.tmps) = true) (h5 : ∀ w, (execOp a.eval (ops.getD i o0)).run P w = .ok (.value v) w) (h : TakesOk P ops L (listed.setIfInBounds i true) (a.put (ops.getD i o0).dst v)) : TakesOk P ops ((i, v) :: L) listed a :=
  ⟨⟨h1, h2, h3, h4, h5⟩, h⟩
theorem wpAnyH_takes {P : Program} {ops : Array Oper} {Q : Exit → Act → World → Prop} {S : World → Prop} {w : World} (hs : Region.noSelect ops = true) (hQ : ∀ d v c a w, Q (.panic c) (Act.put a d v) w → Q (.panic c) a w) (hS : S w) :
    ∀ (L : List (Nat × Value)) {F fuel : Nat} {listed : Array Bool} {a : Act}, F = fuel + L.length → TakesOk P ops L listed a → wpAnyH P .any ops Q S fuel (listedOf L listed) (actsOf ops L a) w → wpAnyH P .any ops Q S F listed a w
  | [], F, fuel, listed, a, hF, _, h => by subst hF; exact h
  | (i, v) :: L, F, fuel, listed, a, hF, hT, h => by
    obtain ⟨⟨h1, h2, h3, h4, h5⟩, hT⟩ := hT
    subst hF
    exact wpAnyH_take (i := i) (v := v) h1 hs h2 h3 (fun c a w => hQ _ _ c a w) (.inl ⟨h4, fun w _ => h5 w⟩) hS (wpAnyH_takes hs hQ hS L rfl hT h)
theorem held_cast {P : Program} {ops : Array Oper} {Q : Exit → Act → World → Prop} {S : World → Prop} {w : World} {fuel fuel' : Nat} {listed listed' : Array Bool} {a a' : Act} (h0 : fuel = fuel') (h1 : listed = listed') (h2 : a = a')
    (h : wpAnyH P .any ops Q S fuel' listed' a' w) : wpAnyH P .any ops Q S fuel listed a w := by
  subst h0 h1 h2
  exact h
theorem region_cast {P : Program} {id : Nat} {ops ops' : Array Oper} {d : Bool} {Q : Exit → Act → World → Prop} {a : Act} {w : World} (h : ops = ops') (H : (Code.region id ops' d).wp P Q a w) : (Code.region id ops d).wp P Q a w := by
  subst h
  exact H
/-- the operations of ofLetter's great region -/
noncomputable def opsL : Array Oper := match Tryz.f20.body with
  | some (.seq _ (.seq _ (.seq (.region _ ops _) _))) => ops
  | _ => #[]
end Go.Proofs.YtbnmddopgbhapaaGreat
