/-
  Plain mathematics of a run: the stack, numbers by chance, what each instruction does, a run to its end. No program is named here.
-/
import Derived.Test.YthhpoihfaggafaaDoorCMath
import Derived.Laws.BitsAllLaws
namespace VmM
open CodM

/-- a number of 64 bits -/
def w64 (n : Int) : Int := (n + 9223372036854775808) % 18446744073709551616 - 9223372036854775808
/-- an event, and a record: their parts -/
structure Ev where
  time : Int
  org : Int
  seq : Int
  to : Int
  kind : Int
  data : Int
deriving DecidableEq
structure Rc where
  time : Int
  org : Int
  seq : Int
  proc : Int
  nth : Int
  val : Int
deriving DecidableEq
/-- what a process has: its variables, how many it sent, how many it drew -/
structure Ps where
  vars : List Int
  sent : Int
  drawn : Int
deriving DecidableEq
/-- a step: what was sent, and told -/
structure Stp where
  st : Ps
  sends : List Ev
  tells : List Rc
deriving DecidableEq
/-- how far a run is -/
structure Run where
  vars : List Int
  sent : Int
  drawn : Int
  sends : List Ev
  tells : List Rc
  stack : List Int
  next : Nat
deriving DecidableEq
/-- the machine, and the event -/
structure Mch where
  self : Int
  procs : Int
  seed : Int
deriving DecidableEq

def push (n : Int) (s : Run) : Run := if s.stack.length < 16 then { s with stack := s.stack ++ [n] } else s
def top (s : Run) : Int := s.stack.getLastD 0
def drop (s : Run) : Run := { s with stack := s.stack.dropLast }
def ch0 (seed drawn : Int) : Int := Go.IntKind.u64.wrap (Go.IntKind.u64.wrap seed + Go.IntKind.u64.wrap (Go.IntKind.u64.wrap (Go.IntKind.u64.wrap drawn + 1) * 11400714819323198485))
def ch1 (x : Int) : Int := Go.IntKind.u64.wrap (Go.bits .xor .u64 x (x / 1073741824) * 13787848793156543929)
def ch2 (x : Int) : Int := Go.IntKind.u64.wrap (Go.bits .xor .u64 x (x / 134217728) * 10723151780598845931)
def ch3 (x : Int) : Int := Go.bits .xor .u64 x (x / 2147483648)
/-- the number by chance that is drawn behind so many -/
def chance (seed drawn : Int) : Int := w64 (ch3 (ch2 (ch1 (ch0 seed drawn))) / 2)
/-- which process a number stands for -/
def whom (procs n : Int) : Int := (n.tmod procs + procs - 1).tmod procs + 1
def delay (d : Int) : Int := min (max d 1) 1048576
/-- may an event be, of so many processes -/
def mayE (procs : Int) (e : Ev) : Bool :=
  decide (0 ≤ e.time ∧ e.time ≤ 1099511627776 ∧ 0 ≤ e.org ∧ e.org ≤ 17 ∧ 0 ≤ e.seq ∧ e.seq ≤ 4611686018427387904 ∧ 1 ≤ e.to ∧ e.to ≤ procs ∧ 0 ≤ e.kind ∧ e.kind ≤ 7)
def sentBy (m : Mch) (e : Ev) (kind : Int) (s : Run) : Ev :=
  ⟨e.time + delay (top (drop s)), m.self, s.sent, whom m.procs (top s), kind, top (drop (drop s))⟩
/-- of a send that is at hand -/
def send (m : Mch) (e : Ev) (kind : Int) (s : Run) : Run :=
  let t := drop (drop (drop s))
  if s.sends.length = 4 ∨ mayE m.procs (sentBy m e kind s) = false then t
  else { t with sends := s.sends ++ [sentBy m e kind s], sent := w64 (s.sent + 1) }
def tell (m : Mch) (e : Ev) (s : Run) : Run :=
  let t := drop s
  if s.tells.length = 4 then t else { t with tells := s.tells ++ [⟨e.time, e.org, e.seq, m.self, s.tells.length, top s⟩] }
def two (f : Int → Int → Int) (s : Run) : Run := push (f (top (drop s)) (top s)) (drop (drop s))
def setVar (k : Nat) (v : Int) (s : Run) : Run := { s with vars := s.vars.set k v }
/-- what an instruction does, of a kind of so many instructions -/
def op (m : Mch) (e : Ev) (len : Nat) (x : Ins) (s : Run) : Run :=
  if x.1 = 1 then push x.2 s
  else if x.1 = 2 then push (s.vars.getD x.2.toNat 0) s
  else if x.1 = 3 then setVar x.2.toNat (top s) (drop s)
  else if x.1 = 4 then push e.time s
  else if x.1 = 5 then push e.data s
  else if x.1 = 6 then push m.self s
  else if x.1 = 7 then { push (chance m.seed s.drawn) s with drawn := w64 (s.drawn + 1) }
  else if x.1 = 8 then two (fun a b => w64 (a + b)) s
  else if x.1 = 9 then two (fun a b => w64 (a - b)) s
  else if x.1 = 10 then two (fun a b => w64 (a * b)) s
  else if x.1 = 11 then two (fun a b => if a < b then 1 else 0) s
  else if x.1 = 12 then two (fun a b => if a = b then 1 else 0) s
  else if x.1 = 13 then { s with next := x.2.toNat }
  else if x.1 = 14 then (if top s = 0 then { drop s with next := x.2.toNat } else drop s)
  else if x.1 = 15 then send m e x.2 s
  else if x.1 = 16 then tell m e s
  else { s with next := len }
/-- so many instructions -/
def go (m : Mch) (e : Ev) (code : List Ins) : Nat → Run → Run
  | 0, s => s
  | n + 1, s => if s.next < code.length then go m e code n (op m e code.length (code.getD s.next (0, 0)) { s with next := s.next + 1 }) else s
def start (p : Ps) : Run := ⟨p.vars, p.sent, p.drawn, [], [], [], 0⟩
def done (s : Run) : Stp := ⟨⟨s.vars, s.sent, s.drawn⟩, s.sends, s.tells⟩
/-- the code of a kind -/
def codeOf (p : Prg) (kind : Int) : List Ins := p.kinds.getD kind.toNat []
def run (m : Mch) (p : Prg) (s : Ps) (e : Ev) : Stp := done (go m e (codeOf p e.kind) 256 (start s))
/-- is a state one of the machine -/
def isOf (p : Prg) (s : Ps) : Bool := decide ((s.vars.length : Int) = p.vars ∧ 0 ≤ s.sent ∧ 0 ≤ s.drawn)
end VmM
