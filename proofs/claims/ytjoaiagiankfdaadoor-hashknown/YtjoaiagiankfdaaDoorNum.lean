/- SHA-256's steps over plain numbers, for the kernel to reckon with. -/
import Derived.Test.YtjoaiagiankfdaaDoorMath
namespace Go.Proofs.YtjoaiagiankfdaaDoor.Sha
structure N8 where
  a : Nat
  b : Nat
  c : Nat
  d : Nat
  e : Nat
  f : Nat
  g : Nat
  h : Nat
/-- k at n, n reckoned first. -/
noncomputable def fz {α : Type} (n : Nat) (k : Nat → α) : α := Nat.rec (motive := fun _ => α) (k 0) (fun m _ => k (Nat.succ m)) n
noncomputable def rndsN (l : List Nat) : Nat → Nat → Nat → Nat → Nat → Nat → Nat → Nat → N8 :=
  List.rec (motive := fun _ => Nat → Nat → Nat → Nat → Nat → Nat → Nat → Nat → N8) (fun a b c d e f g h => ⟨a, b, c, d, e, f, g, h⟩)
    (fun kw _ ih a b c d e f g h =>
      fz (Nat.mul e 4294967297) fun y => fz (Nat.mul a 4294967297) fun z =>
      fz (Nat.add (Nat.add (Nat.add h (Nat.xor (Nat.xor (Nat.shiftRight y 6) (Nat.shiftRight y 11)) (Nat.shiftRight y 25))) (Nat.xor (Nat.land e f) (Nat.land (Nat.xor 4294967295 e) g))) kw) fun t =>
      fz (Nat.mod (Nat.add t (Nat.add (Nat.xor (Nat.xor (Nat.shiftRight z 2) (Nat.shiftRight z 13)) (Nat.shiftRight z 22)) (Nat.xor (Nat.xor (Nat.land a b) (Nat.land a c)) (Nat.land b c)))) 4294967296) fun a' =>
      fz (Nat.mod (Nat.add d t) 4294967296) fun e' => ih a' a b c e' e f g) l
noncomputable def blksN (kw : List Nat) (n : Nat) : Nat → Nat → Nat → Nat → Nat → Nat → Nat → Nat → N8 :=
  Nat.rec (motive := fun _ => Nat → Nat → Nat → Nat → Nat → Nat → Nat → Nat → N8) (fun a b c d e f g h => ⟨a, b, c, d, e, f, g, h⟩)
    (fun _ ih a b c d e f g h =>
      N8.rec (motive := fun _ => N8) (fun a' b' c' d' e' f' g' h' =>
        fz (Nat.mod (Nat.add a a') 4294967296) fun a => fz (Nat.mod (Nat.add b b') 4294967296) fun b => fz (Nat.mod (Nat.add c c') 4294967296) fun c => fz (Nat.mod (Nat.add d d') 4294967296) fun d =>
        fz (Nat.mod (Nat.add e e') 4294967296) fun e => fz (Nat.mod (Nat.add f f') 4294967296) fun f => fz (Nat.mod (Nat.add g g') 4294967296) fun g => fz (Nat.mod (Nat.add h h') 4294967296) fun h => ih a b c d e f g h) (rndsN kw a b c d e f g h)) n
def kwA : List Nat := [2750124281, 3533219314, 4683095344, 5554781446, 2595759036, 3142742866, 4087407621, 4504535094, 5258152953, 1944370274, 2240997151, 3060653860, 3558850261, 3795850079, 4248659976, 4881994453, 7962470397, 8149304770, 1109373709, 1449834259, 1332383432, 1811277571, 5697566716, 4336890837, 4651386783, 7023905028, 4167673427, 6075095564, 3506461443, 6222891004, 3100717738, 957412701, 3211936012, 2525724465, 5192624004, 2750766458, 3733122911, 5785415788, 5302099131, 4510137934, 4494867471, 3051847127, 6841751890, 5493434369, 5416391400, 6288792078, 4206943767, 1385611443, 2838015846, 4615462549, 2870002303, 4911289699, 3868675357, 5105900214, 4192983651, 4114851946, 2567787456, 3518289627, 3043469264, 3431775655, 2875437985, 3700493388, 7133747437, 3572068108]
end Go.Proofs.YtjoaiagiankfdaaDoor.Sha
