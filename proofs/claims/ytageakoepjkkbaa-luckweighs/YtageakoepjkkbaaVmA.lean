/- A small deterministic machine for the model's code: values, memory as lists, a compiler from the model's code to it, and its run by fuel. Definitions alone; no program is named. -/
import Derived.StillTail
import Derived.Deep.Quiet
import Derived.Below
namespace Go.Vm

inductive Cap where
  | known (n : Nat) | grow | any
  deriving DecidableEq

structure Loc where
  ro : Bool
  b : Nat
  off : Nat
  deriving DecidableEq

inductive AVal where
  | b (x : Bool)
  | i (k : IntKind) (n : Int)
  | s (l : List UInt8)
  | p (q : Option Loc)
  | nsl
  | sl (q : Loc) (len : Nat) (cap : Cap)
  | fn (f : Nat) (first capt : List AVal)
  | nfn
  | agg (cs : List AVal)
  | tup (vs : List AVal)
  | esl
  | mp (b : Nat)
  | yld (b : Nat)
  | ifc (ty : Nat) (v : AVal)
  | bm (name : String) (v : AVal)

abbrev und : AVal := .tup []

def AVal.cells : AVal → List AVal
  | .agg cs => cs
  | v => [v]

def AVal.scalar : AVal → Bool
  | .b _ | .i _ _ | .s _ | .nsl | .nfn | .p none => true
  | _ => false

mutual
def AVal.bel (L : Nat) : AVal → Bool
  | .p (some q) => q.ro || Nat.blt q.b L
  | .sl q _ _ => q.ro || Nat.blt q.b L
  | .fn _ a c => bels L a && bels L c
  | .agg cs => bels L cs
  | .tup cs => bels L cs
  | .mp b => Nat.blt b L
  | .yld b => Nat.blt b L
  | .ifc _ v => AVal.bel L v
  | .bm _ v => AVal.bel L v
  | _ => true
def bels (L : Nat) : List AVal → Bool
  | [] => true
  | v :: l => AVal.bel L v && bels L l
end

def intEq (a b : Int) : Bool :=
  match a, b with
  | .ofNat a, .ofNat b => Nat.beq a b
  | .negSucc a, .negSucc b => Nat.beq a b
  | _, _ => false

mutual
def sameA : AVal → AVal → Bool
  | .b x, .b y => x == y
  | .i k x, .i k' y => k == k' && intEq x y
  | .p none, .p none => true
  | .p (some q), .p (some q') => q == q'
  | .nsl, .nsl => true
  | .nfn, .nfn => true
  | .sl q n c, .sl q' n' c' => q == q' && n == n' && c == c'
  | .agg l, .agg l' => sameAs l l'
  | .fn f a c, .fn f' a' c' => f == f' && sameAs a a' && sameAs c c'
  | _, _ => false
def sameAs : List AVal → List AVal → Bool
  | [], [] => true
  | x :: l, y :: l' => sameA x y && sameAs l l'
  | _, _ => false
end

/-- a store of values by number: node 0, its sons 2 i + 1 and 2 i + 2 -/
inductive Tr where
  | e
  | n (l : Tr) (v : AVal) (r : Tr)

def Tr.getG (d : Nat) (i : Nat) (t : Tr) : AVal :=
  match d with
  | 0 => und
  | d + 1 => match t with
    | .e => und
    | .n l v r => match i with
      | 0 => v
      | i + 1 => cond (Nat.beq (Nat.land i 1) 0) (Tr.getG d (Nat.shiftRight i 1) l) (Tr.getG d (Nat.shiftRight i 1) r)

def Tr.setG (v : AVal) (d : Nat) (i : Nat) (t : Tr) : Tr :=
  match d with
  | 0 => t
  | d + 1 => match i with
    | 0 => match t with
      | .e => .n .e v .e
      | .n l _ r => .n l v r
    | i + 1 => match t with
      | .e => cond (Nat.beq (Nat.land i 1) 0) (.n (Tr.setG v d (Nat.shiftRight i 1) .e) und .e) (.n .e und (Tr.setG v d (Nat.shiftRight i 1) .e))
      | .n l w r => cond (Nat.beq (Nat.land i 1) 0) (.n (Tr.setG v d (Nat.shiftRight i 1) l) w r) (.n l w (Tr.setG v d (Nat.shiftRight i 1) r))

def Tr.get (t : Tr) (i : Nat) : AVal := Tr.getG (i + 1) i t
def Tr.set (t : Tr) (i : Nat) (v : AVal) : Tr := Tr.setG v (i + 1) i t

def Tr.mkFrom (i : Nat) (t : Tr) : List AVal → Tr
  | [] => t
  | v :: l => Tr.mkFrom (i + 1) (t.set i v) l
def Tr.mk (l : List AVal) : Tr := Tr.mkFrom 0 .e l

/-- n values from a place on -/
def Tr.row (t : Tr) (i : Nat) : Nat → List AVal
  | 0 => []
  | k + 1 => t.get i :: Tr.row t (i + 1) k

def lget {α : Type} : List α → Nat → Option α
  | [], _ => none
  | x :: l, i => match i with
    | 0 => some x
    | i + 1 => lget l i

def lset {α : Type} (v : α) : List α → Nat → List α
  | [], _ => []
  | x :: l, i => match i with
    | 0 => v :: l
    | i + 1 => x :: lset v l i

inductive AOpd where
  | t (n : Nat) | c (v : AVal)

/-- a type, its method's function, the way to the receiver: places, sizes, is it one cell? -/
abbrev MRow := Nat × Nat × List (Nat × Nat × Bool)

inductive PK where
  | mv (x : AOpd)
  | pick (c a b : AOpd)
  | build (z : List AVal) (ps : List ((Nat × Nat) × AOpd))
  | nilck (x : AOpd)
  | bin (op : BinOp) (x y : AOpd)
  | nilcmp (neg : Bool) (x : AOpd)
  | not (x : AOpd)
  | neg (x : AOpd)
  | beq (neg : Bool) (x y : AOpd)
  | mx (isMax : Bool) (x y : AOpd)
  | conv (k : IntKind) (x : AOpd)
  | field (one : Bool) (off n : Nat) (x : AOpd)
  | faddr (off : Nat) (x : AOpd)
  | ixA (len es : Nat) (x i : AOpd)
  | ixS (es : Nat) (x i : AOpd)
  | ixV (len es : Nat) (one : Bool) (x i : AOpd)
  | ixStr (x i : AOpd)
  | mkfn (f : Nat) (first capt : List AOpd)
  | slA (n es : Nat) (x : AOpd) (lo hi : Option AOpd)
  | slS (es : Nat) (x : AOpd) (lo hi mx : Option AOpd)
  | ext (ix : Nat) (x : AOpd)
  | len (str : Bool) (x : AOpd)
  | sbin (op : BinOp) (x y : AOpd)
  | slStr (x : AOpd) (lo hi : Option AOpd)
  | chr (x : AOpd)
  | mvS (x : AOpd)
  | mki (ty : Nat) (x : AOpd)
  | mkbm (name : String) (x : AOpd)
  | nilm (tabs : List (String × List MRow)) (x : AOpd)
  | mx3 (isMax : Bool) (x y z : AOpd)
  | seq (neg : Bool) (offs : List Nat) (x y : AOpd)

inductive Kind where
  | pure (k : PK)
  | ld (one : Bool) (n : Nat) (x : AOpd)
  | al (e : Nat) (z : List AVal)
  | bx (e n : Nat) (x : AOpd)
  | bsl (e es : Nat) (z : List AVal) (len : Nat) (ps : List ((Nat × Nat) × AOpd))
  | bts (x : AOpd)
  | st (n : Nat) (x v : AOpd)
  | mk (e es bytes : Nat) (z : List AVal) (len cap : AOpd)
  | app (e es bytes : Nat) (z : List AVal) (x y : AOpd)
  | call (f : Nat) (args : List AOpd)
  | callv (x : AOpd) (args : List AOpd)
  | calli (tab : List MRow) (x : AOpd) (args : List AOpd)
  | cpy (es : Nat) (x y : AOpd)
  | mkm
  | mlk (ok : Bool) (z : AVal) (x k : AOpd)
  | mup (x k v : AOpd)

structure AOp where
  dst : Option Nat
  g : Option (Nat × Bool)
  k : Kind

inductive ACode where
  | skip
  | ops (l : List AOp)
  | any (l : List (AOp × Bool))
  | seq (a b : ACode)
  | cond (c : AOpd) (a b : ACode)
  | block (id : Nat) (a : ACode)
  | loop (a : ACode)
  | exit (id : Nat)
  | ret
  | opsY (l : List AOp)
  | flt (l : List (AOp × Bool))
  | rng (x : AOpd) (ps : List Nat) (asg body : ACode)

inductive ARes where
  | t (n : Nat) | c (slot : Nat) (one : Bool) (n : Nat)

structure AFn where
  nt : Nat
  res : List ARes
  body : ACode

inductive AExit where
  | norm | exit (id : Nat) | ret

/-- a loop over a function: what stays the same of its record -/
structure LRec where
  t : Tr
  ps : List Nat
  asg : ACode
  body : ACode

inductive Ghost where
  | mp (l : List (List UInt8 × AVal))
  | lp (L : LRec) (st : LoopState) (pend : Option AExit)

/-- a block of cells; or, where g is given, a map (its keys and what they lead to, in the order in which they came), or the record of a loop over a function -/
structure ABlk where
  e : Nat
  n : Nat
  c : Tr
  g : Option Ghost := none

def ABlk.fix (b : ABlk) : Option LRec :=
  match b.g with
  | some (.lp L _ _) => some L
  | _ => none

abbrev Heap := List (Option ABlk)

structure St where
  t : Tr
  h : Heap
  lw : Nat
  lp : Nat

/- values -/
def opd (t : Tr) : AOpd → AVal
  | .t n => t.get n
  | .c v => v

def put (t : Tr) (d : Option Nat) (v : AVal) : Tr :=
  match d with
  | some d => t.set d v
  | none => t

def forceI {α : Type} (n : Int) (f : Int → α) : α :=
  match n with
  | .ofNat 0 => f (.ofNat 0)
  | .ofNat (m + 1) => f (.ofNat (m + 1))
  | .negSucc 0 => f (.negSucc 0)
  | .negSucc (m + 1) => f (.negSucc (m + 1))

def wr (k : IntKind) (n : Int) : Int :=
  match k with
  | .i64 => match n with
    | .ofNat m => cond (Nat.ble m 9223372036854775807) (.ofNat m) (IntKind.i64.wrap (.ofNat m))
    | .negSucc m => cond (Nat.ble m 9223372036854775807) (.negSucc m) (IntKind.i64.wrap (.negSucc m))
  | .u8 => match n with
    | .ofNat m => cond (Nat.ble m 255) (.ofNat m) (IntKind.u8.wrap (.ofNat m))
    | .negSucc m => IntKind.u8.wrap (.negSucc m)
  | k => k.wrap n

def ltI (x y : Int) : Bool :=
  match x with
  | .ofNat a => match y with
    | .ofNat b => Nat.blt a b
    | .negSucc _ => false
  | .negSucc a => match y with
    | .ofNat _ => true
    | .negSucc b => Nat.blt b a

def eqI (x y : Int) : Bool :=
  match x with
  | .ofNat a => match y with
    | .ofNat b => Nat.beq a b
    | .negSucc _ => false
  | .negSucc a => match y with
    | .ofNat _ => false
    | .negSucc b => Nat.beq a b

/-- is an index within 0 .. len? -/
def inI (n : Int) (len : Nat) : Bool :=
  match n with
  | .ofNat m => Nat.blt m len
  | .negSucc _ => false

def mkI (k : IntKind) (n : Int) : AVal := forceI n (.i k)

def kn : IntKind → Nat
  | .i8 => 0 | .i16 => 1 | .i32 => 2 | .i64 => 3 | .u8 => 4 | .u16 => 5 | .u32 => 6 | .u64 => 7

def kEq (k k' : IntKind) : Bool := Nat.beq (kn k) (kn k')

def bitsS (op : BinOp) (k : IntKind) (x y : Int) : Option AVal :=
  match op with
  | .and => some (mkI k (k.wrap (BitVec.ofInt k.bits x &&& BitVec.ofInt k.bits y).toNat))
  | .or => some (mkI k (k.wrap (BitVec.ofInt k.bits x ||| BitVec.ofInt k.bits y).toNat))
  | .xor => some (mkI k (k.wrap (BitVec.ofInt k.bits x ^^^ BitVec.ofInt k.bits y).toNat))
  | .andNot => some (mkI k (k.wrap (BitVec.ofInt k.bits x &&& ~~~(BitVec.ofInt k.bits y)).toNat))
  | _ => none

def mkN (k : IntKind) (n : Nat) : AVal :=
  match n with
  | 0 => .i k (.ofNat 0)
  | m + 1 => .i k (.ofNat (m + 1))

def bits8 (op : BinOp) (a b : Nat) : Option AVal :=
  match op with
  | .and => some (mkN .u8 (Nat.land a b))
  | .or => some (mkN .u8 (Nat.lor a b))
  | .xor => some (mkN .u8 (Nat.xor a b))
  | .andNot => some (mkN .u8 (Nat.xor a (Nat.land a b)))
  | _ => none

def bits (op : BinOp) (k : IntKind) (x y : Int) : Option AVal :=
  match k with
  | .u8 => match x with
    | .ofNat a => match y with
      | .ofNat b => cond (Nat.blt a 256 && Nat.blt b 256) (bits8 op a b) (bitsS op .u8 (.ofNat a) (.ofNat b))
      | .negSucc b => bitsS op .u8 (.ofNat a) (.negSucc b)
    | .negSucc a => bitsS op .u8 (.negSucc a) y
  | k => bitsS op k x y

def shlI (k : IntKind) (x y : Int) : Option AVal :=
  match y with
  | .ofNat m => some (mkI k (wr k (x * Int.ofNat (2 ^ (min m k.bits)))))
  | .negSucc _ => none

def shrI (k : IntKind) (x y : Int) : Option AVal :=
  match y with
  | .ofNat m => some (mkI k (x.fdiv (Int.ofNat (2 ^ (min m k.bits)))))
  | .negSucc _ => none

def quoI (k : IntKind) (x y : Int) : Option AVal := cond (eqI y (.ofNat 0)) none (some (mkI k (wr k (x.tdiv y))))
def remI (k : IntKind) (x y : Int) : Option AVal := cond (eqI y (.ofNat 0)) none (some (mkI k (x.tmod y)))

def binK (op : BinOp) (k : IntKind) (x y : Int) : Option AVal :=
  match op with
  | .add => some (mkI k (wr k (x + y)))
  | .sub => some (mkI k (wr k (x - y)))
  | .mul => some (mkI k (wr k (x * y)))
  | .quo => quoI k x y
  | .rem => remI k x y
  | .eql => some (.b (eqI x y))
  | .neq => some (.b (!eqI x y))
  | .lss => some (.b (ltI x y))
  | .leq => some (.b (!ltI y x))
  | .gtr => some (.b (ltI y x))
  | .geq => some (.b (!ltI x y))
  | op => bits op k x y

def binI (op : BinOp) (k : IntKind) (x : Int) (k' : IntKind) (y : Int) : Option AVal :=
  match op with
  | .shl => shlI k x y
  | .shr => shrI k x y
  | op => cond (kEq k k') (binK op k x y) none

/-- the place of element n of len, es cells each -/
def atI (n : Int) (len : Nat) (r : Bool) (b o es : Nat) : Option AVal :=
  match n with
  | .ofNat m => cond (Nat.blt m len) (some (.p (some ⟨r, b, o + m * es⟩))) none
  | .negSucc _ => none

def splice (cs : List AVal) (off : Nat) : List AVal → List AVal
  | [] => cs
  | v :: l => splice (cs.set off v) (off + 1) l

def fillA (z : List AVal) : List ((Nat × Nat) × AVal) → Option (List AVal)
  | [] => some z
  | ((off, size), v) :: l =>
    if v.cells.length = size ∧ off + size ≤ z.length then fillA (splice z off v.cells) l else none

def partA (one : Bool) (cs : List AVal) (off n : Nat) : Option AVal :=
  if one then lget cs off else cond (Nat.ble (off + n) cs.length) (some (.agg ((cs.drop off).take n))) none

def sbound (x : Option AVal) (dflt y : Nat) : Option Nat :=
  match x with
  | none => some dflt
  | some (.i _ n) => match n with
    | .ofNat m => cond (Nat.ble m y) (some m) none
    | _ => none
  | _ => none

def capLe (c : Cap) (len n : Nat) : Bool :=
  match c with
  | .known m => Nat.ble n m
  | _ => Nat.ble n len

def ev_pick (t : Tr) (c a b : AOpd) : Option AVal :=
  match opd t c with
  | .b true => some (opd t a)
  | .b false => some (opd t b)
  | _ => none

def ev_build (t : Tr) (z : List AVal) (ps : List ((Nat × Nat) × AOpd)) : Option AVal :=
  (fillA z (ps.map fun (x, o) => (x, opd t o))).map .agg

def ev_nilck (t : Tr) (x : AOpd) : Option AVal :=
  match opd t x with
  | .p (some q) => some (.p (some q))
  | .sl q l c => some (.sl q l c)
  | .nsl => some .nsl
  | .fn f a c => some (.fn f a c)
  | _ => none

def ev_bin (t : Tr) (op : BinOp) (x y : AOpd) : Option AVal :=
  match opd t x with
  | .i k a => match opd t y with
    | .i k' b => binI op k a k' b
    | _ => none
  | _ => none

def ev_nilcmp (t : Tr) (neg : Bool) (x : AOpd) : Option AVal :=
  match opd t x with
  | .nsl => some (.b (!neg))
  | .sl _ _ _ => some (.b neg)
  | _ => none

def ev_not (t : Tr) (x : AOpd) : Option AVal :=
  match opd t x with
  | .b y => some (.b (!y))
  | _ => none

def ev_neg (t : Tr) (x : AOpd) : Option AVal :=
  match opd t x with
  | .i k n => some (mkI k (wr k (0 - n)))
  | _ => none

def ev_beq (t : Tr) (neg : Bool) (x y : AOpd) : Option AVal :=
  match opd t x, opd t y with
  | .b a, .b b => some (.b (if neg then !(a == b) else a == b))
  | _, _ => none

def ev_mx (t : Tr) (m : Bool) (x y : AOpd) : Option AVal :=
  match opd t x, opd t y with
  | .i k a, .i _ b => some (mkI k (if m then (if b > a then b else a) else (if b < a then b else a)))
  | _, _ => none

def ev_conv (t : Tr) (k : IntKind) (x : AOpd) : Option AVal :=
  match opd t x with
  | .i _ n => some (mkI k (wr k n))
  | _ => none

def ev_field (t : Tr) (one : Bool) (off n : Nat) (x : AOpd) : Option AVal :=
  match opd t x with
  | .agg cs => partA one cs off n
  | _ => none

def ev_faddr (t : Tr) (off : Nat) (x : AOpd) : Option AVal :=
  match opd t x with
  | .p (some ⟨r, b, o⟩) => some (.p (some ⟨r, b, o + off⟩))
  | _ => none

def ev_ixA (t : Tr) (len es : Nat) (x i : AOpd) : Option AVal :=
  match opd t x with
  | .p (some ⟨r, b, o⟩) => match opd t i with
    | .i _ n => atI n len r b o es
    | _ => none
  | _ => none

def ev_ixS (t : Tr) (es : Nat) (x i : AOpd) : Option AVal :=
  match opd t x with
  | .sl ⟨r, b, o⟩ len _ => match opd t i with
    | .i _ n => atI n len r b o es
    | _ => none
  | _ => none

def ev_ixV (t : Tr) (len es : Nat) (one : Bool) (x i : AOpd) : Option AVal :=
  match opd t x with
  | .agg cs => match opd t i with
    | .i _ n => match n with
      | .ofNat m => cond (Nat.blt m len) (partA one cs (m * es) es) none
      | _ => none
    | _ => none
  | _ => none

def ev_ixStr (t : Tr) (x i : AOpd) : Option AVal :=
  match opd t x with
  | .s l => match opd t i with
    | .i _ n => match n with
      | .ofNat m => (lget l m).map fun c => mkI .u8 c.toNat
      | _ => none
    | _ => none
  | _ => none

def ev_mkfn (t : Tr) (f : Nat) (first capt : List AOpd) : Option AVal :=
  some (.fn f (first.map (opd t)) (capt.map (opd t)))

def ev_slA (t : Tr) (n es : Nat) (x : AOpd) (lo hi : Option AOpd) : Option AVal :=
  match opd t x with
  | .p (some q) =>
    match sbound (hi.map (opd t)) n n with
    | some h => match sbound (lo.map (opd t)) 0 h with
      | some l => cond (Nat.blt l n) (some (.sl ⟨q.ro, q.b, q.off + l * es⟩ (h - l) (.known (n - l)))) none
      | none => none
    | none => none
  | _ => none

def sl_mx (t : Tr) (es : Nat) (q : Loc) (len : Nat) (cap : Cap) (lo : Option AOpd) (hi m : AOpd) : Option AVal :=
  match opd t m with
  | .i _ mn => match mn with
    | .ofNat k =>
      cond (capLe cap len k)
        (match sbound (some (opd t hi)) len k with
          | some h => match sbound (lo.map (opd t)) 0 h with
            | some l => cond (Nat.blt l k || Nat.beq l 0) (some (.sl ⟨q.ro, q.b, q.off + l * es⟩ (h - l) (.known (k - l)))) none
            | none => none
          | none => none)
        none
    | _ => none
  | _ => none

def capB (cap : Cap) (len : Nat) : Nat :=
  match cap with
  | .known c => c
  | _ => len

def sl_lh (t : Tr) (es : Nat) (q : Loc) (len : Nat) (cap : Cap) (lo hi : Option AOpd) : Option AVal :=
  match sbound (hi.map (opd t)) len (capB cap len) with
  | some h => match sbound (lo.map (opd t)) 0 h with
    | some l => match l with
      | 0 => some (.sl q h cap)
      | l + 1 => match cap with
        | .known c => cond (Nat.blt (l + 1) c) (some (.sl ⟨q.ro, q.b, q.off + (l + 1) * es⟩ (h - (l + 1)) (.known (c - (l + 1))))) none
        | _ => cond (Nat.blt (l + 1) len) (some (.sl ⟨q.ro, q.b, q.off + (l + 1) * es⟩ (h - (l + 1)) .any)) (some .esl)
    | none => none
  | none => none

def nsl_mx (t : Tr) (lo : Option AOpd) (hi m : AOpd) : Option AVal :=
  match sbound (some (opd t m)) 0 0 with
  | some _ => match sbound (some (opd t hi)) 0 0 with
    | some _ => match sbound (lo.map (opd t)) 0 0 with
      | some _ => some .nsl
      | none => none
    | none => none
  | none => none
def ev_slS (t : Tr) (es : Nat) (x : AOpd) (lo hi mx : Option AOpd) : Option AVal :=
  match opd t x with
  | .nsl => match mx with
    | some m => match hi with
      | some hi => nsl_mx t lo hi m
      | none => none
    | none => match sbound (hi.map (opd t)) 0 0 with
      | some _ => match sbound (lo.map (opd t)) 0 0 with
        | some _ => some .nsl
        | none => none
      | none => none
  | .sl q len cap => match mx with
    | some m => match hi with
      | some hi => sl_mx t es q len cap lo hi m
      | none => none
    | none => sl_lh t es q len cap lo hi
  | _ => none

def ev_ext (t : Tr) (ix : Nat) (x : AOpd) : Option AVal :=
  match opd t x with
  | .tup vs => lget vs ix
  | _ => none

def ev_len (t : Tr) (str : Bool) (x : AOpd) : Option AVal :=
  match opd t x with
  | .sl _ n _ => cond str none (some (mkI .i64 n))
  | .nsl => cond str none (some (.i .i64 0))
  | .esl => cond str none (some (.i .i64 0))
  | .s l => cond str (some (mkI .i64 l.length)) none
  | _ => none

/- strings -/
def eqL : List UInt8 → List UInt8 → Bool
  | [], [] => true
  | a :: x, b :: y => cond (Nat.beq a.toNat b.toNat) (eqL x y) false
  | _, _ => false
def ltL : List UInt8 → List UInt8 → Bool
  | _, [] => false
  | [], _ :: _ => true
  | a :: x, b :: y => cond (Nat.blt a.toNat b.toNat) true (cond (Nat.beq a.toNat b.toNat) (ltL x y) false)
def sOp (op : BinOp) (a b : List UInt8) : Option AVal :=
  match op with
  | .add => cond (Nat.ble (a.length + b.length) 1099511627776) (some (.s (a ++ b))) none
  | .eql => some (.b (eqL a b))
  | .neq => some (.b (!eqL a b))
  | .lss => some (.b (ltL a b))
  | .leq => some (.b (ltL a b || eqL a b))
  | .gtr => some (.b (!(ltL a b || eqL a b)))
  | .geq => some (.b (!ltL a b))
  | _ => none
def ev_sbin (t : Tr) (op : BinOp) (x y : AOpd) : Option AVal :=
  match opd t x with
  | .s a => match opd t y with
    | .s b => sOp op a b
    | _ => none
  | _ => none
def ev_slStr (t : Tr) (x : AOpd) (lo hi : Option AOpd) : Option AVal :=
  match opd t x with
  | .s a =>
    match sbound (hi.map (opd t)) a.length a.length with
    | some h => match sbound (lo.map (opd t)) 0 h with
      | some l => some (.s ((a.take h).drop l))
      | none => none
    | none => none
  | _ => none
def ev_mvS (t : Tr) (x : AOpd) : Option AVal :=
  match opd t x with
  | .s l => some (.s l)
  | _ => none
def ev_chr (t : Tr) (x : AOpd) : Option AVal :=
  match opd t x with
  | .i _ n => match n with
    | .ofNat m => cond (Nat.blt m 128) (some (.s [UInt8.ofNat m])) none
    | _ => none
  | _ => none

/-- the receiver of a method -/
def followA : List (Nat × Nat × Bool) → AVal → Option AVal
  | [], v => some v
  | (off, n, one) :: l, v => match v with
    | .agg cs => match partA one cs off n with
      | some u => followA l u
      | none => none
    | _ => none
def mrow : List MRow → Nat → Option (Nat × List (Nat × Nat × Bool))
  | [], _ => none
  | (t, f, p) :: l, ty => cond (Nat.beq t ty) (some (f, p)) (mrow l ty)
def mget (tab : List MRow) (v : AVal) : Option (Nat × AVal) :=
  match v with
  | .ifc ty u => match mrow tab ty with
    | some (f, p) => match followA p u with
      | some r => some (f, r)
      | none => none
    | none => none
  | _ => none

/-- the same numbers at these places? -/
def seqA : List Nat → List AVal → List AVal → Option Bool
  | [], _, _ => some true
  | o :: l, xs, ys => match lget xs o with
    | some (.i k a) => match lget ys o with
      | some (.i k' b) => cond (kEq k k') (cond (eqI a b) (seqA l xs ys) (some false)) none
      | _ => none
    | _ => none
def ev_seq (t : Tr) (neg : Bool) (offs : List Nat) (x y : AOpd) : Option AVal :=
  match opd t x with
  | .agg xs => match opd t y with
    | .agg ys => match seqA offs xs ys with
      | some r => some (.b (if neg then !r else r))
      | none => none
    | _ => none
  | _ => none

def mtabF : List (String × List MRow) → String → Option (List MRow)
  | [], _ => none
  | (n, tab) :: l, s => if n == s then some tab else mtabF l s
def ev_nilm (t : Tr) (tabs : List (String × List MRow)) (x : AOpd) : Option AVal :=
  match opd t x with
  | .bm name v => match mtabF tabs name with
    | some tab => match mget tab v with
      | some _ => some (.bm name v)
      | none => none
    | none => none
  | _ => ev_nilck t x
def mxI (m : Bool) (a c : Int) : Int := if m then (if c > a then c else a) else (if c < a then c else a)
def ev_mx3 (t : Tr) (m : Bool) (x y z : AOpd) : Option AVal :=
  match opd t x, opd t y, opd t z with
  | .i k a, .i k' b, .i k'' c => cond (kEq k k' && kEq k k'') (some (mkI k (mxI m (mxI m a b) c))) none
  | _, _, _ => none

def evP (t : Tr) (k : PK) : Option AVal :=
  match k with
  | .mv x => some (opd t x)
  | .pick c a b => ev_pick t c a b
  | .build z ps => ev_build t z ps
  | .nilck x => ev_nilck t x
  | .bin op x y => ev_bin t op x y
  | .nilcmp neg x => ev_nilcmp t neg x
  | .not x => ev_not t x
  | .neg x => ev_neg t x
  | .beq neg x y => ev_beq t neg x y
  | .mx m x y => ev_mx t m x y
  | .conv k x => ev_conv t k x
  | .field one off n x => ev_field t one off n x
  | .faddr off x => ev_faddr t off x
  | .ixA len es x i => ev_ixA t len es x i
  | .ixS es x i => ev_ixS t es x i
  | .ixV len es one x i => ev_ixV t len es one x i
  | .ixStr x i => ev_ixStr t x i
  | .mkfn f first capt => ev_mkfn t f first capt
  | .slA n es x lo hi => ev_slA t n es x lo hi
  | .slS es x lo hi mx => ev_slS t es x lo hi mx
  | .ext ix x => ev_ext t ix x
  | .len str x => ev_len t str x
  | .sbin op x y => ev_sbin t op x y
  | .slStr x lo hi => ev_slStr t x lo hi
  | .chr x => ev_chr t x
  | .mvS x => ev_mvS t x
  | .mki ty x => some (.ifc ty (opd t x))
  | .mkbm name x => some (.bm name (opd t x))
  | .nilm tabs x => ev_nilm t tabs x
  | .mx3 m x y z => ev_mx3 t m x y z
  | .seq neg offs x y => ev_seq t neg offs x y

/- memory -/
def rdB (ro : List ABlk) (h : Heap) (q : Loc) : Option ABlk :=
  cond q.ro (lget ro q.b) (match lget h q.b with
    | some (some b) => some b
    | _ => none)

def rd (ro : List ABlk) (h : Heap) (one : Bool) (n : Nat) (q : Loc) : Option AVal :=
  match rdB ro h q with
  | some b => cond one (cond (Nat.blt q.off b.n) (some (b.c.get q.off)) none)
      (cond (Nat.ble (q.off + n) b.n) (some (.agg (b.c.row q.off n))) none)
  | none => none

/-- values stored one behind the other -/
def Tr.splice (t : Tr) (i : Nat) : List AVal → Tr
  | [] => t
  | v :: l => Tr.splice (t.set i v) (i + 1) l

def nonp : List AVal → Bool
  | [] => true
  | v :: l => v.scalar && nonp l

def AVal.one : AVal → Bool
  | .agg _ | .tup _ => false
  | _ => true

def ones : List AVal → Bool
  | [] => true
  | v :: l => v.one && ones l

def wrH (h : Heap) (q : Loc) (vs : List AVal) : Option Heap :=
  cond q.ro none (match lget h q.b with
    | some (some b) => cond (Nat.ble (q.off + vs.length) b.n && ones vs) (some (lset (some { b with c := b.c.splice q.off vs }) h q.b)) none
    | _ => none)

def rep (z : List AVal) : Nat → List AVal
  | 0 => []
  | n + 1 => z ++ rep z n

def blkOf (e : Nat) (cs : List AVal) : ABlk := { e := e, n := cs.length, c := Tr.mk cs }

def newB (st : St) (e : Nat) (cs : List AVal) : St := { st with h := st.h ++ [some (blkOf e cs)] }

def st_bx (st : St) (e n : Nat) (v : AVal) : Option (AVal × St) :=
  cond (Nat.beq v.cells.length n) (some (.p (some ⟨false, st.h.length, 0⟩), newB st e v.cells)) none

def st_bsl (st : St) (e : Nat) (z : List AVal) (len : Nat) (ps : List ((Nat × Nat) × AOpd)) : Option (AVal × St) :=
  match fillA (rep z len) (ps.map fun (x, o) => (x, opd st.t o)) with
  | some cs => some (.sl ⟨false, st.h.length, 0⟩ len (.known len), newB st e cs)
  | none => none

def st_st (st : St) (n : Nat) (q : Loc) (cs : List AVal) : Option (AVal × St) :=
  cond (Nat.beq cs.length n)
    (match wrH st.h q cs with
      | some h => some (und, { st with h, lw := min st.lw q.b, lp := cond (nonp cs) st.lp (min st.lp q.b) })
      | none => none)
    none

def st_mk (st : St) (e bytes : Nat) (z : List AVal) (l c : AVal) : Option (AVal × St) :=
  match l with
  | .i _ l => match c with
    | .i _ c => match l with
      | .ofNat l => match c with
        | .ofNat c => cond (Nat.ble l c && Nat.ble c 1048576 && Nat.ble (c * bytes) 281474976710656)
            (some (.sl ⟨false, st.h.length, 0⟩ l (.known c), newB st e (rep z c))) none
        | _ => none
      | _ => none
    | _ => none
  | _ => none

/-- bytes as numbers -/
def bytesA : List AVal → Option (List UInt8)
  | [] => some []
  | .i .u8 n :: l => match n with
    | .ofNat m => cond (Nat.blt m 256) ((bytesA l).map (UInt8.ofNat m :: ·)) none
    | _ => none
  | _ => none
def st_bts (ro : List ABlk) (st : St) (x : AVal) : Option (AVal × St) :=
  match x with
  | .nsl => some (.s [], st)
  | .sl q n _ => match rdB ro st.h q with
    | some b => cond (Nat.ble (q.off + n) b.n) ((bytesA (b.c.row q.off n)).map fun l => (.s l, st)) none
    | none => none
  | _ => none

/-- what is appended: its cells and how many elements -/
def app_src (ro : List ABlk) (h : Heap) (es : Nat) (y : AVal) : Option (List AVal × Nat) :=
  match y with
  | .nsl => some ([], 0)
  | .sl q n _ => match rdB ro h q with
    | some b => cond (Nat.ble (q.off + n * es) b.n) (some (b.c.row q.off (n * es), n)) none
    | none => none
  | _ => none

/-- room for so many elements, of so many bytes -/
def fits (n bytes : Nat) : Bool := Nat.ble (n * bytes) 1099511627776 && Nat.ble n 1099511627776

def app_known (ro : List ABlk) (st : St) (e es bytes : Nat) (q : Loc) (len c : Nat) (ys : List AVal) (n : Nat) : Option (AVal × St) :=
  cond (Nat.ble (len + n) c)
    (cond (Nat.beq (n * es) 0) (some (.sl q (len + n) (.known c), st))
      (match wrH st.h { q with off := q.off + len * es } ys with
        | some h => some (.sl q (len + n) (.known c), { st with h, lw := min st.lw q.b, lp := cond (nonp ys) st.lp (min st.lp q.b) })
        | none => none))
    (match rdB ro st.h q with
      | some b => cond (Nat.ble (q.off + len * es) b.n && fits (len + n) bytes)
          (some (.sl ⟨false, st.h.length, 0⟩ (len + n) .grow, newB st e (b.c.row q.off (len * es) ++ ys))) none
      | none => none)

def app_grow (st : St) (e es bytes : Nat) (q : Loc) (len : Nat) (ys : List AVal) (n : Nat) : Option (AVal × St) :=
  cond (q.ro || !Nat.beq q.off 0 || Nat.beq n 0) none
    (match lget st.h q.b with
      | some (some b) => cond (Nat.beq b.e e && Nat.ble (len * es) b.n && fits (len + n) bytes && ones ys && Nat.blt 0 b.n)
          (some (.sl ⟨false, st.h.length, 0⟩ (len + n) .grow,
            { st with h := lset none st.h q.b ++ [some (blkOf e (b.c.row 0 (len * es) ++ ys))], lw := min st.lw q.b, lp := min st.lp q.b })) none
      | _ => none)

def st_app (ro : List ABlk) (st : St) (e es bytes : Nat) (x y : AVal) : Option (AVal × St) :=
  match app_src ro st.h es y with
  | none => none
  | some (ys, n) => match x with
    | .nsl => cond (Nat.beq n 0) (some (.nsl, st)) (cond (fits n bytes) (some (.sl ⟨false, st.h.length, 0⟩ n .grow, newB st e ys)) none)
    | .sl q len c => match c with
      | .known c => app_known ro st e es bytes q len c ys n
      | .grow => app_grow st e es bytes q len ys n
      | .any => none
    | _ => none

/- maps whose keys are strings -/
def mfind : List (List UInt8 × AVal) → List UInt8 → Option AVal
  | [], _ => none
  | (k, v) :: l, s => cond (eqL k s) (some v) (mfind l s)
def mput : List (List UInt8 × AVal) → List UInt8 → AVal → List (List UInt8 × AVal)
  | [], s, v => [(s, v)]
  | (k, w) :: l, s, v => cond (eqL k s) ((k, v) :: l) ((k, w) :: mput l s v)
def mlkV (ok : Bool) (z : AVal) (r : Option AVal) : AVal :=
  match r with
  | some v => cond ok (.tup [v, .b true]) v
  | none => cond ok (.tup [z, .b false]) z
def st_mkm (st : St) : AVal × St := (.mp st.h.length, { st with h := st.h ++ [some { e := 0, n := 0, c := .e, g := some (.mp []) }] })
def st_mlk (st : St) (ok : Bool) (z : AVal) (x k : AVal) : Option (AVal × St) :=
  match x with
  | .mp b => match lget st.h b with
    | some (some blk) => match blk.g with
      | some (.mp L) => match k with
        | .s s => some (mlkV ok z (mfind L s), st)
        | _ => none
      | _ => none
    | _ => none
  | _ => none
def st_mup (st : St) (x k v : AVal) : Option (AVal × St) :=
  match x with
  | .mp b => match lget st.h b with
    | some (some blk) => match blk.g with
      | some (.mp L) => match k with
        | .s s => cond v.scalar (some (und, { st with h := lset (some { blk with g := some (.mp (mput L s v)) }) st.h b, lw := min st.lw b })) none
        | _ => none
      | _ => none
    | _ => none
  | _ => none

/-- copy: read first, then written -/
def st_cpy (ro : List ABlk) (st : St) (es : Nat) (x y : AVal) : Option (AVal × St) :=
  match x with
  | .sl q n _ => match y with
    | .sl q2 n2 _ => match rdB ro st.h q2 with
      | some b => cond (Nat.ble (q2.off + min n2 n * es) b.n)
        (match wrH st.h q (b.c.row q2.off (min n2 n * es)) with
          | some h => some (mkI .i64 ((min n2 n : Nat) : Int), { st with h, lw := min st.lw q.b, lp := cond (nonp (b.c.row q2.off (min n2 n * es))) st.lp (min st.lp q.b) })
          | none => none)
        none
      | none => none
    | _ => none
  | _ => none

def stepK (ro : List ABlk) (st : St) (k : Kind) : Option (AVal × St) :=
  match k with
  | .pure k => (evP st.t k).map fun v => (v, st)
  | .ld one n x => match opd st.t x with
    | .p (some q) => (rd ro st.h one n q).map fun v => (v, st)
    | _ => none
  | .al e z => some (.p (some ⟨false, st.h.length, 0⟩), newB st e z)
  | .bx e n x => st_bx st e n (opd st.t x)
  | .bsl e _ z len ps => st_bsl st e z len ps
  | .bts x => st_bts ro st (opd st.t x)
  | .st n x v => match opd st.t x with
    | .p (some q) => st_st st n q (opd st.t v).cells
    | _ => none
  | .mk e _ bytes z len cap => st_mk st e bytes z (opd st.t len) (opd st.t cap)
  | .app e es bytes _ x y => st_app ro st e es bytes (opd st.t x) (opd st.t y)
  | .call _ _ => none
  | .callv _ _ => none
  | .calli _ _ _ => none
  | .mkm => some (st_mkm st)
  | .mlk ok z x k => st_mlk st ok z (opd st.t x) (opd st.t k)
  | .mup x k v => st_mup st (opd st.t x) (opd st.t k) (opd st.t v)
  | .cpy es x y => st_cpy ro st es (opd st.t x) (opd st.t y)

def wantedA (g : Option (Nat × Bool)) (t : Tr) : Bool :=
  match g with
  | none => true
  | some (s, want) => match t.get s with
    | .b x => x == want
    | _ => false

abbrev Caller := Nat → List AVal → Heap → Option (AVal × Heap × Nat × Nat)

def stepC (call : Caller) (ro : List ABlk) (st : St) (k : Kind) : Option (AVal × St) :=
  match k with
  | .call f args => match call f (args.map (opd st.t)) st.h with
    | some (v, h, lw, lp) => some (v, { st with h, lw := min st.lw lw, lp := min st.lp lp })
    | none => none
  | .callv x args => match opd st.t x with
    | .fn f first capt => match call f (first ++ args.map (opd st.t) ++ capt) st.h with
      | some (v, h, lw, lp) => some (v, { st with h, lw := min st.lw lw, lp := min st.lp lp })
      | none => none
    | _ => none
  | .calli tab x args => match mget tab (opd st.t x) with
    | some (f, r) => match call f (r :: args.map (opd st.t)) st.h with
      | some (v, h, lw, lp) => some (v, { st with h, lw := min st.lw lw, lp := min st.lp lp })
      | none => none
    | none => none
  | k => stepK ro st k

def runOps (call : Caller) (ro : List ABlk) : List AOp → St → Option St
  | [], st => some st
  | o :: l, st =>
    if wantedA o.g st.t then
      match stepC call ro st o.k with
      | some (v, st') => runOps call ro l { st' with t := put st'.t o.dst v }
      | none => none
    else runOps call ro l { st with t := put st.t o.dst und }

/-- a round of a loop over a function, asked for from within that function: the record's block, what is handed over -/
abbrev Rounds := Nat → List AVal → Heap → Option (AVal × Heap × Nat × Nat)

def stepY (call : Caller) (rnd : Rounds) (ro : List ABlk) (st : St) (k : Kind) : Option (AVal × St) :=
  match k with
  | .callv x args => match opd st.t x with
    | .yld b => match rnd b (args.map (opd st.t)) st.h with
      | some (v, h, lw, lp) => some (v, { st with h, lw := min st.lw lw, lp := min st.lp lp })
      | none => none
    | _ => stepC call ro st (.callv x args)
  | k => stepC call ro st k

def runOpsY (call : Caller) (rnd : Rounds) (ro : List ABlk) : List AOp → St → Option St
  | [], st => some st
  | o :: l, st =>
    if wantedA o.g st.t then
      match stepY call rnd ro st o.k with
      | some (v, st') => runOpsY call rnd ro l { st' with t := put st'.t o.dst v }
      | none => none
    else runOpsY call rnd ro l { st with t := put st.t o.dst und }

def isCall : Kind → Bool
  | .call _ _ | .callv _ _ | .calli _ _ _ => true
  | _ => false

/- a region whose operations on memory are in a chain, with loads that float: they read what was there when the region began -/
def memK : Kind → Bool
  | .pure _ | .ld .. => false
  | _ => true
def ldO (ro : List ABlk) (h0 : Heap) (t : Tr) (k : Kind) : Option AVal :=
  match k with
  | .ld one n x => match opd t x with
    | .p (some q) => cond (q.ro || Nat.blt q.b h0.length) (rd ro h0 one n q) none
    | _ => none
  | _ => none
def isLd : Kind → Bool
  | .ld _ _ _ => true
  | _ => false
def fstep (call : Caller) (ro : List ABlk) (h0 : Heap) (af fl : Bool) (st : St) (k : Kind) : Option (AVal × St) :=
  cond (fl && isLd k)
    (match ldO ro h0 st.t k with
      | some v => some (v, st)
      | none => none)
    (match stepC call ro st k with
      | some (v, st') => cond (af && !fl && memK k && Nat.blt st'.lw h0.length) none (some (v, st'))
      | none => none)
def runFlt (call : Caller) (ro : List ABlk) (h0 : Heap) (af : Bool) : List (AOp × Bool) → St → Option St
  | [], st => some st
  | (o, fl) :: l, st =>
    if wantedA o.g st.t then
      match fstep call ro h0 af fl st o.k with
      | some (v, st') => runFlt call ro h0 af l { st' with t := put st.t o.dst v }
      | none => none
    else runFlt call ro h0 af l { st with t := put st.t o.dst und }
def execFlt (call : Caller) (ro : List ABlk) (l : List (AOp × Bool)) (st : St) : Option St :=
  match runFlt call ro st.h (l.any fun o => o.2) l { st with lw := st.h.length, lp := st.h.length } with
  | some s => some { s with lw := min st.lw s.lw, lp := min st.lp s.lp }
  | none => none

structure AnyS where
  t : Tr
  h : Heap
  ws : List (Loc × List AVal)
  ck : List ((Loc × List AVal) × AVal)

/-- one operation of a region whose order is open; h0: the heap before the region, from which all is read -/
def anyK (call : Caller) (ro : List ABlk) (h0 : Heap) (s : AnyS) (k : Kind) (flag : Bool) : Option (AVal × AnyS) :=
  match k with
  | .pure k => (evP s.t k).map fun v => (v, s)
  | .ld one n x => match opd s.t x with
    | .p (some q) =>
      if q.ro || Nat.blt q.b h0.length then
        match rd ro h0 one n q with
        | some v => some (v, if flag then { s with ck := ((q, [.b one, .i .i64 n]), v) :: s.ck } else s)
        | none => none
      else none
    | _ => none
  | .st n x v => match opd s.t x with
    | .p (some q) => if (opd s.t v).cells.length = n then some (und, { s with ws := (q, (opd s.t v).cells) :: s.ws }) else none
    | _ => none
  | .call f args =>
    if bels h0.length (args.map (opd s.t)) then match call f (args.map (opd s.t)) h0 with
      | some (v, _, lw, lp) => if v.bel h0.length && Nat.ble h0.length lw && Nat.ble h0.length lp then some (v, s) else none
      | none => none
    else none
  | .callv x args => match opd s.t x with
    | .fn f first capt =>
      if bels h0.length (first ++ args.map (opd s.t) ++ capt) then match call f (first ++ args.map (opd s.t) ++ capt) h0 with
        | some (v, _, lw, lp) => if v.bel h0.length && Nat.ble h0.length lw && Nat.ble h0.length lp then some (v, s) else none
        | none => none
      else none
    | _ => none
  | .al e z => some (.p (some ⟨false, s.h.length, 0⟩), { s with h := s.h ++ [some (blkOf e z)] })
  | _ => none

def runAny (call : Caller) (ro : List ABlk) (h0 : Heap) : List (AOp × Bool) → AnyS → Option AnyS
  | [], s => some s
  | (o, flag) :: l, s =>
    if wantedA o.g s.t then
      match anyK call ro h0 s o.k flag with
      | some (v, s') => runAny call ro h0 l { s' with t := put s'.t o.dst v }
      | none => none
    else runAny call ro h0 l { s with t := put s.t o.dst und }

def ckOk (ro : List ABlk) (h : Heap) : List ((Loc × List AVal) × AVal) → Bool
  | [] => true
  | ((q, [.b one, .i _ n]), v) :: l => (match rd ro h one n.toNat q with
      | some u => sameA u v
      | none => false) && ckOk ro h l
  | _ => false

/-- the stores, one behind the other; behind each what was read must read as before -/
def writes (ro : List ABlk) (ck : List ((Loc × List AVal) × AVal)) : List (Loc × List AVal) → St → Option St
  | [], st => some st
  | (q, vs) :: l, st => match wrH st.h q vs with
    | some h => if ckOk ro h ck then writes ro ck l { st with h, lw := min st.lw q.b, lp := if nonp vs then st.lp else min st.lp q.b } else none
    | none => none

def execAny (call : Caller) (ro : List ABlk) (l : List (AOp × Bool)) (st : St) : Option St :=
  match runAny call ro st.h l { t := st.t, h := st.h, ws := [], ck := [] } with
  | some s => writes ro s.ck s.ws.reverse { st with t := s.t, h := s.h }
  | none => none

def resA (ro : List ABlk) (st : St) : ARes → Option AVal
  | .t n => some (st.t.get n)
  | .c s one n => match st.t.get s with
    | .p (some q) => rd ro st.h one n q
    | _ => none

def resAs (ro : List ABlk) (st : St) : List ARes → Option (List AVal)
  | [] => some []
  | r :: l => match resA ro st r with
    | some v => match resAs ro st l with
      | some vs => some (v :: vs)
      | none => none
    | none => none

def tupA : List AVal → AVal
  | [v] => v
  | vs => .tup vs

def gc (L : Nat) (v : AVal) (st : St) : AVal × Heap × Nat × Nat :=
  if Nat.ble L st.lp && v.bel L then (v, st.h.take L, st.lw, st.lp) else (v, st.h, st.lw, st.lp)

/-- the functions, and what is known of calls beforehand -/
structure Tab where
  fn : Nat → Option AFn
  ov : Caller

def callA (F : Tab) (ro : List ABlk) (ex : ACode → St → Option (AExit × St)) : Caller := fun f args h =>
  match F.ov f args h with
  | some r => some r
  | none =>
  match F.fn f with
  | none => none
  | some fn =>
    if !Nat.ble args.length fn.nt then none else
    match ex fn.body { t := Tr.mk args, h, lw := h.length, lp := h.length } with
    | some (.exit _, _) => none
    | some (_, st) => match resAs ro st fn.res with
      | some vs => some (gc h.length (tupA vs) st)
      | none => none
    | none => none

/-- the record of a loop, set anew -/
def setL (h : Heap) (b : Nat) (s : LoopState) (p : Option AExit) : Option Heap :=
  match lget h b with
  | some (some blk) => match blk.g with
    | some (.lp L _ _) => some (lset (some { blk with g := some (.lp L s p) }) h b)
    | _ => none
  | _ => none

def putPs (t : Tr) : List Nat → List AVal → Tr
  | p :: ps, v :: vs => putPs (t.set p v) ps vs
  | _, _ => t

def AExit.pend : AExit → Option AExit
  | .norm => none
  | e => some e
def AExit.after : AExit → LoopState
  | .norm => .ready
  | _ => .done
def AExit.on : AExit → Bool
  | .norm => true
  | _ => false

/-- a round begins: the record was ready -/
def begL (h : Heap) (b : Nat) : Option Heap :=
  match lget h b with
  | some (some blk) => match blk.g with
    | some (.lp L .ready p) => some (lset (some { blk with g := some (.lp L .busy p) }) h b)
    | _ => none
  | _ => none

/-- one round: the assignments to the loop's variables, the body -/
def roundB (ex : ACode → St → Option (AExit × St)) (L : LRec) (b : Nat) (vs : List AVal) (h : Heap) : Option (AVal × Heap × Nat × Nat) :=
  match ex L.asg { t := putPs L.t L.ps vs, h, lw := h.length, lp := h.length } with
  | some (.norm, s1) => match begL s1.h b with
    | some h1 => match ex L.body { s1 with h := h1, lw := min s1.lw b } with
      | some (e, s2) => match setL s2.h b e.after e.pend with
        | some h2 => some (gc h.length (.b e.on) { s2 with h := h2, lw := min s2.lw b })
        | none => none
      | none => none
    | none => none
  | _ => none

def roundA (ex : ACode → St → Option (AExit × St)) : Rounds := fun b vs h =>
  match lget h b with
  | some (some blk) => match blk.g with
    | some (.lp L .ready _) => cond (Nat.beq vs.length L.ps.length) (roundB ex L b vs h) none
    | _ => none
  | _ => none

/-- the loop's end: how it was left; its record is gone -/
def endL (h : Heap) (b : Nat) : Option (Option AExit × Heap) :=
  match lget h b with
  | some (some blk) => match blk.g with
    | some (.lp _ s p) => match s with
      | .busy => none
      | _ => some (p, lset none h b)
    | _ => none
  | _ => none

def recB (t : Tr) (ps : List Nat) (asg body : ACode) : ABlk := { e := 0, n := 0, c := .e, g := some (.lp ⟨t, ps, asg, body⟩ .ready none) }

/-- a loop over a function -/
def rngA (call : Caller) (ps : List Nat) (asg body : ACode) (st : St) (v : AVal) : Option (AExit × St) :=
  match v with
  | .fn f first capt => match call f (first ++ [.yld st.h.length] ++ capt) (st.h ++ [some (recB st.t ps asg body)]) with
    | some (_, h2, lw, lp) => match endL h2 st.h.length with
      | some (p, h3) => some (p.getD .norm, { st with h := h3, lw := min (min st.lw lw) st.h.length, lp := min st.lp lp })
      | none => none
    | none => none
  | _ => none

def exec (F : Tab) (ro : List ABlk) : Nat → ACode → St → Option (AExit × St)
  | 0, _, _ => none
  | n + 1, c, st => match c with
    | .skip => some (.norm, st)
    | .ops l => match runOps (callA F ro (exec F ro n)) ro l st with
      | some st' => some (.norm, st')
      | none => none
    | .any l => match execAny (callA F ro (exec F ro n)) ro l st with
      | some st' => some (.norm, st')
      | none => none
    | .seq a b => match exec F ro n a st with
      | some (.norm, st') => exec F ro n b st'
      | r => r
    | .cond x a b => match opd st.t x with
      | .b true => exec F ro n a st
      | .b false => exec F ro n b st
      | _ => none
    | .block id a => match exec F ro n a st with
      | some (.exit i, st') => if i = id then some (.norm, st') else some (.exit i, st')
      | r => r
    | .loop a => match exec F ro n a st with
      | some (.norm, st') => exec F ro n (.loop a) st'
      | r => r
    | .exit id => some (.exit id, st)
    | .ret => some (.ret, st)
    | .flt l => match execFlt (callA F ro (exec F ro n)) ro l st with
      | some st' => some (.norm, st')
      | none => none
    | .opsY l => match runOpsY (callA F ro (exec F ro n)) (roundA (exec F ro n)) ro l st with
      | some st' => some (.norm, st')
      | none => none
    | .rng x ps asg body => rngA (callA F ro (exec F ro n)) ps asg body st (opd st.t x)

/- the compiler -/
def cval : Value → Option AVal
  | .bool b => some (.b b)
  | .int k n => some (.i k n)
  | .string s => some (.s s.data.toList)
  | .pointer none => some (.p none)
  | .slice none 0 0 => some .nsl
  | .nilFunc => some .nfn
  | _ => none

def cvals : List Value → Option (List AVal)
  | [] => some []
  | v :: l => match cval v, cvals l with
    | some x, some xs => some (x :: xs)
    | _, _ => none

def copd : Operand → Option AOpd
  | .tmp t => some (.t t)
  | .const v => (cval v).map .c
  | .func f => some (.c (.fn f [] []))
  | .global _ => none

def copds : List Operand → Option (List AOpd)
  | [] => some []
  | v :: l => match copd v, copds l with
    | some x, some xs => some (x :: xs)
    | _, _ => none

def copt : Option Operand → Option (Option AOpd)
  | none => some none
  | some o => (copd o).map some

def czero (P : Program) (e : TypeId) : Option (List AVal) :=
  match P.info? e with
  | some i => match i.zero with
    | some z => match cvals z.cells.toList with
      | some zs => if zs.length = i.size then some zs else none
      | none => none
    | none => none
  | none => none

def csize (P : Program) (e : TypeId) : Option Nat := (P.info? e).map (·.size)
def cbytes (P : Program) (e : TypeId) : Option Nat := (P.info? e).map (·.bytes)

def cagg (P : Program) (e : TypeId) : Option Bool :=
  match P.underlying e with
  | some (.struct _) | some (.array _ _) => some true
  | some _ => some false
  | none => none

def cparts (place : Nat → Option (Nat × Nat)) : List (Nat × Operand) → Option (List ((Nat × Nat) × AOpd))
  | [] => some []
  | (i, x) :: l => match place i, copd x, cparts place l with
    | some p, some x, some l => some ((p, x) :: l)
    | _, _, _ => none

def isNilSl : Operand → Bool
  | .const (.slice none 0 0) => true
  | _ => false

def c_build (P : Program) (t : TypeId) (parts : Array (Nat × Operand)) : Option Kind := do
  let z ← czero P t
  match P.underlying t with
  | some (.struct fs) => do
    let ps ← cparts (fun i => do let f ← fs[i]?; let s ← csize P f.type; some (f.offset, s)) parts.toList
    if fs.all (fun f => (csize P f.type).isSome) then some (.pure (.build z ps)) else none
  | some (.array _ e) => do
    let s ← csize P e
    let ps ← cparts (fun i => some (i * s, s)) parts.toList
    some (.pure (.build z ps))
  | _ => none

def c_bsl (P : Program) (t : TypeId) (len : Nat) (parts : Array (Nat × Operand)) : Option Kind :=
  match P.underlying t with
  | some (.slice e) => do
    let z ← czero P e
    let s ← csize P e
    let ps ← cparts (fun i => some (i * s, s)) parts.toList
    if len * s ≤ 16777216 ∧ 0 < s then some (.bsl e s z len ps) else none
  | _ => none

def isIntT (P : Program) (t : TypeId) : Bool :=
  match P.underlying t with
  | some (.int _) => true
  | _ => false

/-- the fields of a struct that are compared, each by its cells -/
def cmpFs (P : Program) (rec : TypeId → Option (List Nat)) : List Field → Option (List Nat)
  | [] => some []
  | f :: fs => if f.name = "_" then none else match csize P f.type with
    | some s => match rec f.type with
      | some os => match cmpFs P rec fs with
        | some r => if os.all (fun o => Nat.blt o s) then some (os.map (f.offset + ·) ++ r) else none
        | none => none
      | none => none
    | none => none
/-- the cells by which two values are compared -/
def cmpOffs (P : Program) : Nat → TypeId → Option (List Nat)
  | 0, _ => none
  | d + 1, t => match P.underlying t with
    | some (.int _) => some [0]
    | some (.struct fs) => if P.stoodInHeld t then none else cmpFs P (cmpOffs P d) fs.toList
    | some (.array n e) => match csize P e with
      | some s => match cmpOffs P d e with
        | some os => if os.all (fun o => Nat.blt o s) then some ((List.range n).flatMap fun i => os.map (i * s + ·)) else none
        | none => none
      | none => none
    | _ => none
def c_eqs (P : Program) (t : TypeId) (neg : Bool) (x y : Operand) : Option Kind :=
  match P.underlying t with
  | some .bool => do some (.pure (.beq neg (← copd x) (← copd y)))
  | some (.slice _) => if isNilSl y then do some (.pure (.nilcmp neg (← copd x))) else none
  | some (.struct _) => if P.eqGuardType P.depth t then none else do
    some (.pure (.seq neg (← cmpOffs P 4 t) (← copd x) (← copd y)))
  | some (.array _ _) => if P.eqGuardType P.depth t then none else do
    some (.pure (.seq neg (← cmpOffs P 4 t) (← copd x) (← copd y)))
  | _ => none

def c_bin (P : Program) (op : BinOp) (t : TypeId) (x y : Operand) : Option Kind :=
  match P.underlying t with
  | some (.int _) => do some (.pure (.bin op (← copd x) (← copd y)))
  | some .string => do some (.pure (.sbin op (← copd x) (← copd y)))
  | _ => match op with
    | .eql => c_eqs P t false x y
    | .neq => c_eqs P t true x y
    | _ => none

def c_un (op : UnOp) (x : Operand) : Option Kind :=
  match op with
  | .not => do some (.pure (.not (← copd x)))
  | .neg => do some (.pure (.neg (← copd x)))
  | _ => none

def c_conv (P : Program) (src dst : TypeId) (x : Operand) : Option Kind :=
  match P.underlying src with
  | some (.int _) => match P.underlying dst with
    | some (.int k) => do some (.pure (.conv k (← copd x)))
    | some .string => do some (.pure (.chr (← copd x)))
    | _ => none
  | some .string => match P.underlying dst with
    | some .string => do some (.pure (.mvS (← copd x)))
    | _ => none
  | some (.slice e) => match P.underlying e with
    | some (.int .u8) => match P.underlying dst with
      | some .string => do some (.bts (← copd x))
      | _ => none
    | _ => none
  | _ => none

def c_faddr (P : Program) (t : TypeId) (x : Operand) (f : Nat) : Option Kind :=
  match P.underlying t with
  | some (.struct fs) => do
    let fd ← fs[f]?
    let s ← csize P fd.type
    if s = 0 then none else some (.pure (.faddr fd.offset (← copd x)))
  | _ => none

def c_field (P : Program) (t : TypeId) (x : Operand) (f : Nat) : Option Kind :=
  match P.underlying t with
  | some (.struct fs) => do
    let fd ← fs[f]?
    let ag ← cagg P fd.type
    some (.pure (.field (!ag) fd.offset (← csize P fd.type) (← copd x)))
  | _ => none

def c_ixa (P : Program) (t : TypeId) (x ix : Operand) : Option Kind :=
  match P.underlying t with
  | some (.array len e) => do some (.pure (.ixA len (← csize P e) (← copd x) (← copd ix)))
  | some (.slice e) => do some (.pure (.ixS (← csize P e) (← copd x) (← copd ix)))
  | _ => none

def c_ixv (P : Program) (t : TypeId) (x ix : Operand) : Option Kind :=
  match P.underlying t with
  | some (.array len e) => do
    let ag ← cagg P e
    some (.pure (.ixV len (← csize P e) (!ag) (← copd x) (← copd ix)))
  | some .string => do some (.pure (.ixStr (← copd x) (← copd ix)))
  | _ => none

def c_fn (fn : Fn) (first capt : Array Operand) : Option Kind :=
  match fn with
  | .func f => do some (.pure (.mkfn f (← copds first.toList) (← copds capt.toList)))
  | .method name => match first.toList with
    | [x] => match capt.toList with
      | [] => do some (.pure (.mkbm name (← copd x)))
      | _ => none
    | _ => none
  | _ => none

def c_mk (P : Program) (t : TypeId) (l c : Operand) : Option Kind :=
  match P.underlying t with
  | some (.slice e) => do
    let s ← csize P e
    if s = 0 then none else some (.mk e s (← cbytes P e) (← czero P e) (← copd l) (← copd c))
  | _ => none

def c_slice (P : Program) (t : TypeId) (x : Operand) (lo hi mx : Option Operand) : Option Kind := do
  let lo' ← copt lo
  let hi' ← copt hi
  let mx' ← copt mx
  match P.underlying t with
  | some (.array n e) => do
    let s ← csize P e
    if mx.isSome then none else some (.pure (.slA n s (← copd x) lo' hi'))
  | some (.slice e) => do some (.pure (.slS (← csize P e) (← copd x) lo' hi' mx'))
  | some .string => if mx.isSome then none else do some (.pure (.slStr (← copd x) lo' hi'))
  | _ => none

def c_len (P : Program) (as : List Operand) (ts : List TypeId) : Option Kind :=
  match as with
  | [x] => match ts with
    | [t] => match P.underlying t with
      | some (.slice _) => do some (.pure (.len false (← copd x)))
      | some .string => do some (.pure (.len true (← copd x)))
      | _ => none
    | _ => none
  | _ => none

def c_app (P : Program) (as : List Operand) (ts : List TypeId) : Option Kind :=
  match as with
  | [x, y] => match ts with
    | [t, u] => match P.underlying t with
      | some (.slice e) => match P.underlying u with
        | some (.slice _) => do
          let s ← csize P e
          if s = 0 then none else some (.app e s (← cbytes P e) (← czero P e) (← copd x) (← copd y))
        | _ => none
      | _ => none
    | _ => none
  | _ => none

def c_mx (isMax : Bool) (as : List Operand) : Option Kind :=
  match as with
  | [x, y] => do some (.pure (.mx isMax (← copd x) (← copd y)))
  | [x, y, z] => do some (.pure (.mx3 isMax (← copd x) (← copd y) (← copd z)))
  | _ => none
def c_cpy (P : Program) (as : List Operand) (ts : List TypeId) : Option Kind :=
  match as with
  | [x, y] => match ts with
    | [t, u] => match P.underlying t with
      | some (.slice e) => match P.underlying u with
        | some (.slice _) => do some (.cpy (← csize P e) (← copd x) (← copd y))
        | _ => none
      | _ => none
    | _ => none
  | _ => none

def c_path (P : Program) : List FieldStep → TypeId → Option (List (Nat × Nat × Bool) × TypeId)
  | [], t => some ([], t)
  | s :: rest, _ => if s.deref then none else
    match P.underlying s.struct with
    | some (.struct fs) => match fs[s.index]? with
      | some f => match cagg P f.type with
        | some ag => match csize P f.type with
          | some n => match c_path P rest f.type with
            | some (l, t') => some ((f.offset, n, !ag) :: l, t')
            | none => none
          | none => none
        | none => none
      | none => none
    | _ => none
def c_row (P : Program) (name : String) (t : TypeId) : Option MRow :=
  match P.info? t with
  | some i => match i.methods.find? (·.name == name) with
    | some m => match m.func with
      | some (f, false) => match c_path P m.path.toList t with
        | some (p, xt) => match P.underlying xt with
          | some (.pointer _) => none
          | some _ => some (t, f, p)
          | none => none
        | none => none
      | _ => none
    | none => none
  | none => none
def c_rows (P : Program) (name : String) : List MRow := (List.range P.types.size).filterMap (c_row P name)
def c_mki (P : Program) (t : TypeId) (x : Operand) : Option Kind :=
  match P.underlying t with
  | some (.interface _) => none
  | some _ => do some (.pure (.mki t (← copd x)))
  | none => none

def c_call (P : Program) (cal : Callee) (as : List Operand) (ts : List TypeId) : Option Kind :=
  match cal with
  | .builtin .len => c_len P as ts
  | .builtin .append => c_app P as ts
  | .builtin .max => c_mx true as
  | .builtin .min => c_mx false as
  | .builtin .copy => c_cpy P as ts
  | .value (.func f) => do some (.call f (← copds as))
  | .value (.tmp t) => do some (.callv (.t t) (← copds as))
  | .invoke r name => do some (.calli (c_rows P name) (← copd r) (← copds as))
  | _ => none

def c_mkm (r : Option Operand) : Option Kind :=
  match r with
  | none => some .mkm
  | some _ => none
def czv (P : Program) (e : TypeId) : Option AVal :=
  match P.info? e with
  | some i => match i.zero with
    | some z => cval z
    | none => none
  | none => none
def c_mlk (P : Program) (t : TypeId) (x k : Operand) (ok : Bool) : Option Kind :=
  match P.underlying t with
  | some (.map kt et) => match P.underlying kt with
    | some .string => do some (.mlk ok (← czv P et) (← copd x) (← copd k))
    | _ => none
  | _ => none
def c_mup (P : Program) (t : TypeId) (x k v : Operand) : Option Kind :=
  match P.underlying t with
  | some (.map kt _) => match P.underlying kt with
    | some .string => do some (.mup (← copd x) (← copd k) (← copd v))
    | _ => none
  | _ => none

def dedupS : List String → List String
  | [] => []
  | s :: l => s :: (dedupS l).filter (fun x => !(x == s))
def c_meths (P : Program) : List (String × List MRow) :=
  ((dedupS ((List.range P.types.size).flatMap fun t => match P.info? t with
    | some i => i.methods.toList.map (·.name)
    | none => [])).map fun n => (n, c_rows P n)).filter fun x => !x.2.isEmpty
def c_nilck (P : Program) (x : Operand) : Option Kind :=
  match c_meths P with
  | [] => do some (.pure (.nilck (← copd x)))
  | l => do some (.pure (.nilm l (← copd x)))

def compK (P : Program) (o : Op) : Option Kind :=
  match o with
  | .move x => (copd x).map fun x => .pure (.mv x)
  | .assign x => (copd x).map fun x => .pure (.mv x)
  | .pick c a b => do some (.pure (.pick (← copd c) (← copd a) (← copd b)))
  | .alloc e => (czero P e).map fun z => .al e z
  | .box e x => do some (.bx e (← csize P e) (← copd x))
  | .build t parts => c_build P t parts
  | .buildSlice t len parts => c_bsl P t len parts
  | .load t x => do some (.ld (!(← cagg P t)) (← csize P t) (← copd x))
  | .store t x v => do some (.st (← csize P t) (← copd x) (← copd v))
  | .nilCheck x => c_nilck P x
  | .binOp op t x y _ => c_bin P op t x y
  | .unOp op _ x => c_un op x
  | .convert src dst x => c_conv P src dst x
  | .fieldAddr t x f => c_faddr P t x f
  | .field t x f => c_field P t x f
  | .indexAddr t x ix => c_ixa P t x ix
  | .index t x ix => c_ixv P t x ix
  | .makeFunc fn first capt => c_fn fn first capt
  | .makeSlice t l c => c_mk P t l c
  | .slice t x lo hi mx => c_slice P t x lo hi mx
  | .extract x ix => do some (.pure (.ext ix (← copd x)))
  | .makeMap _ r => c_mkm r
  | .lookup t x k ok => c_mlk P t x k ok
  | .makeInterface t x => c_mki P t x
  | .mapUpdate t x k v => c_mup P t x k v
  | .call c => c_call P c.callee c.args.toList c.argTypes.toList
  | _ => none

def compG (ops : Array Oper) : Option (Nat × Bool) → Option (Option (Nat × Bool))
  | none => some none
  | some (j, want) => match (ops[j]?).bind (·.dst) with
    | some s => some (some (s, want))
    | none => none

def compO (P : Program) (ops : Array Oper) (o : Oper) : Option AOp :=
  match compG ops o.guard, compK P o.op with
  | some g, some k => some ⟨o.dst, g, k⟩
  | _, _ => none

def compL (P : Program) (ops : Array Oper) : List Oper → Option (List AOp)
  | [] => some []
  | o :: l => match compO P ops o, compL P ops l with
    | some x, some xs => some (x :: xs)
    | _, _ => none

/- a region whose order is open: what each operation waits for, as bits -/
def maskOf (ms : List Nat) (o : Oper) : Nat :=
  o.after.toList.foldl (fun s e => if Region.binds .any e then s ||| 2 ^ e.on ||| ms.getD e.on 0 else s) 0

def masks (ms : List Nat) : List Oper → List Nat
  | [] => ms
  | o :: l => masks (ms ++ [maskOf ms o]) l

def hardK : Kind → Bool
  | .st .. => true
  | _ => false

def softW : Kind → Bool
  | .al .. | .call .. | .callv .. => true
  | _ => false

def anyKind : Kind → Bool
  | .app .. | .bx .. | .bsl .. | .mk .. | .bts .. | .mkm | .mlk .. | .mup .. | .calli .. | .cpy .. => false
  | .al _ z => nonp z
  | _ => true

def opdT : AOpd → List Nat
  | .t n => [n]
  | .c _ => []

def optT : Option AOpd → List Nat
  | some x => opdT x
  | none => []

def PK.looks : PK → List Nat
  | .mv x | .nilck x | .nilcmp _ x | .not x | .neg x | .conv _ x | .field _ _ _ x | .faddr _ x | .ext _ x | .len _ x | .chr x | .mvS x | .mki _ x | .mkbm _ x | .nilm _ x => opdT x
  | .pick c a b => opdT c ++ opdT a ++ opdT b
  | .mx3 _ x y z => opdT x ++ opdT y ++ opdT z
  | .build _ ps => ps.flatMap fun p => opdT p.2
  | .bin _ x y | .beq _ x y | .mx _ x y | .ixA _ _ x y | .ixS _ x y | .ixV _ _ _ x y | .ixStr x y | .sbin _ x y | .seq _ _ x y => opdT x ++ opdT y
  | .slStr x lo hi => opdT x ++ optT lo ++ optT hi
  | .mkfn _ a b => a.flatMap opdT ++ b.flatMap opdT
  | .slA _ _ x lo hi => opdT x ++ optT lo ++ optT hi
  | .slS _ x lo hi m => opdT x ++ optT lo ++ optT hi ++ optT m

def Kind.looks : Kind → List Nat
  | .pure k => k.looks
  | .ld _ _ x | .bx _ _ x | .bts x => opdT x
  | .al .. => []
  | .bsl _ _ _ _ ps => ps.flatMap fun p => opdT p.2
  | .st _ x v => opdT x ++ opdT v
  | .mk _ _ _ _ x y | .app _ _ _ _ x y => opdT x ++ opdT y
  | .call _ as => as.flatMap opdT
  | .callv x as => opdT x ++ as.flatMap opdT
  | .calli _ x as => opdT x ++ as.flatMap opdT
  | .cpy _ x y => opdT x ++ opdT y
  | .mkm => []
  | .mlk _ _ x k => opdT x ++ opdT k
  | .mup x k v => opdT x ++ opdT k ++ opdT v

def AOp.looks (o : AOp) : List Nat := o.k.looks ++ (match o.g with | some (s, _) => [s] | none => [])

/-- do two operations touch a slot that one of them writes? -/
def clash (x y : AOp) : Bool :=
  (match x.dst with | some d => y.looks.contains d || y.dst == some d | none => false) ||
  (match y.dst with | some d => x.looks.contains d | none => false)

/-- must the pair, the first one earlier in the text, be in order? -/
def mustWait (x y : AOp) : Bool :=
  clash x y || (hardK x.k && hardK y.k)

def pairsOk (ms : List Nat) (l : List AOp) : Bool :=
  l.zipIdx.all fun (y, j) => l.zipIdx.all fun (x, i) =>
    (!(Nat.blt i j && mustWait x y) || (ms.getD j 0).testBit i) &&
    (!(softW x.k && hardK y.k) || (ms.getD j 0).testBit i)

/-- each operation waits for earlier ones alone -/
def edgesOk (ops : List Oper) : Bool := ops.zipIdx.all fun (o, i) => o.after.toList.all fun e => !Region.binds .any e || Nat.blt e.on i

def guardsOk (l : List AOp) : Bool := l.all fun o => anyKind o.k && (o.g.isNone || !(hardK o.k || softW o.k))

def flags (ms : List Nat) (l : List AOp) : List (AOp × Bool) :=
  l.zipIdx.map fun (x, i) => (x, match x.k with
    | .ld .. => !(l.zipIdx.all fun (y, j) => !hardK y.k || (ms.getD j 0).testBit i)
    | _ => false)

/- a schedule: pure ones first where they are free, else the only one that is ready -/
def isPure : Kind → Bool
  | .pure _ => true
  | _ => false

def takes (ops : Array Oper) (l : List AOp) (listed : Array Bool) (i : Nat) : Bool :=
  (match l[i]? with | some o => isPure o.k | none => false) && Region.free .any ops listed i

def schedule (ops : Array Oper) (l : List AOp) : Nat → Array Bool → Option (List AOp)
  | 0, listed => if (Region.ready .any ops listed).isEmpty then some [] else none
  | fuel + 1, listed =>
    match Region.ready .any ops listed with
    | [] => some []
    | i :: rs =>
      match (i :: rs).find? (takes ops l listed) with
      | some j => match l[j]?, schedule ops l fuel (listed.setIfInBounds j true) with
        | some o, some s => some (o :: s)
        | _, _ => none
      | none => match rs with
        | [] => match l[i]?, schedule ops l fuel (listed.setIfInBounds i true) with
          | some o, some s => some (o :: s)
          | _, _ => none
        | _ => none

/- phases: where several are ready and none is free: all that are ready, in an open order, if all else waits for them -/
def bare (o : Oper) : Oper := { o with after := #[] }

def phaseChk (ops : Array Oper) (final : Array Bool) : Nat → Array Bool → List Nat → Bool
  | 0, listed, R => R.isEmpty && listed == final
  | n + 1, listed, R => (!R.isEmpty && Region.ready .any ops listed == R) && R.all fun i => phaseChk ops final n (listed.setIfInBounds i true) (R.filter fun k => k != i)

def nodupB : List Nat → Bool
  | [] => true
  | a :: l => !l.contains a && nodupB l

def gets (ops : Array Oper) : List Nat → Option (List Oper)
  | [] => some []
  | i :: l => match ops[i]?, gets ops l with
    | some o, some os => some (o :: os)
    | _, _ => none

def phase (P : Program) (ops : Array Oper) (listed final : Array Bool) (R : List Nat) : Option (List (AOp × Bool)) :=
  match gets ops R with
  | some os => match compL P (os.map bare).toArray (os.map bare) with
    | some l => if (os.all fun o => o.guard.isNone) && (pairsOk (masks [] (os.map bare)) l && guardsOk l && edgesOk (os.map bare)) && nodupB R && phaseChk ops final R.length listed R then some (flags (masks [] (os.map bare)) l) else none
    | none => none
  | none => none

/-- a schedule with phases -/
inductive Sch where
  | fin (l : List AOp)
  | more (l : List AOp) (f : List (AOp × Bool)) (r : Sch)

def Sch.cons (o : AOp) : Sch → Sch
  | .fin l => .fin (o :: l)
  | .more l f r => .more (o :: l) f r

def Sch.asm : Sch → ACode
  | .fin l => .ops l
  | .more l f r => .seq (.ops l) (.seq (.any f) r.asm)

def steps (P : Program) (ops : Array Oper) (l : List AOp) : Nat → Nat → Array Bool → Option Sch
  | 0, _, listed => if (Region.ready .any ops listed).isEmpty then some (.fin []) else none
  | fuel + 1, room, listed =>
    match Region.ready .any ops listed with
    | [] => some (.fin [])
    | i :: rs =>
      match (i :: rs).find? (takes ops l listed) with
      | some j => match Nat.blt 0 room, l[j]?, steps P ops l fuel (room - 1) (listed.setIfInBounds j true) with
        | true, some o, some s => some (s.cons o)
        | _, _, _ => none
      | none => match rs with
        | [] => match Nat.blt 0 room, l[i]?, steps P ops l fuel (room - 1) (listed.setIfInBounds i true) with
          | true, some o, some s => some (s.cons o)
          | _, _, _ => none
        | _ => match Nat.ble (i :: rs).length room, phase P ops listed ((i :: rs).foldl (fun a k => a.setIfInBounds k true) listed) (i :: rs), steps P ops l fuel (room - (i :: rs).length) ((i :: rs).foldl (fun a k => a.setIfInBounds k true) listed) with
          | true, some f, some s => some (.more [] f s)
          | _, _, _ => none

/-- what touches memory is in a chain; what clashes is in order -/
def fltOk (ms : List Nat) (l : List AOp) : Bool :=
  l.zipIdx.all fun (y, j) => l.zipIdx.all fun (x, i) => !(Nat.blt i j && (clash x y || (memK x.k && memK y.k))) || (ms.getD j 0).testBit i
/-- a load in no order with the chain: it floats -/
def fltLd (ms : List Nat) (l : List AOp) (x : AOp) (i : Nat) : Bool :=
  match x.k with
  | .ld .. => !(l.zipIdx.all fun (y, j) => !memK y.k || (cond (Nat.blt j i) ((ms.getD i 0).testBit j) ((ms.getD j 0).testBit i)))
  | _ => false
/-- an operation of the chain that all floating loads come before: it may write to what was there -/
def fltFree (ms : List Nat) (l : List AOp) (x : AOp) (i : Nat) : Bool :=
  !isLd x.k && memK x.k && (l.zipIdx.any fun (y, j) => fltLd ms l y j) && l.zipIdx.all fun (y, j) => !fltLd ms l y j || (ms.getD i 0).testBit j
def fltFlags (ms : List Nat) (l : List AOp) : List (AOp × Bool) :=
  l.zipIdx.map fun (x, i) => (x, fltLd ms l x i || fltFree ms l x i)
def fltR (ops : Array Oper) (l : List AOp) : Option ACode :=
  if fltOk (masks [] ops.toList) l && edgesOk ops.toList then some (.flt (fltFlags (masks [] ops.toList) l)) else none

/-- a region whose order matters, but for phases -/
def anyR0 (P : Program) (ops : Array Oper) (l : List AOp) : Option ACode :=
  if pairsOk (masks [] ops.toList) l && guardsOk l && edgesOk ops.toList then some (.any (flags (masks [] ops.toList) l))
  else match steps P ops l ops.size ops.size (Array.replicate ops.size false) with
    | some s => some s.asm
    | none => fltR ops l

def isCallK : Kind → Bool
  | .call .. | .callv .. => true
  | _ => false
/-- where there are several calls, floating loads are tried first: the calls may answer new memory -/
def anyR (P : Program) (ops : Array Oper) (l : List AOp) : Option ACode :=
  if Nat.ble 2 (l.filter fun o => isCallK o.k).length then match fltR ops l with
    | some a => some a
    | none => anyR0 P ops l
  else anyR0 P ops l

def isCallv : Kind → Bool
  | .callv _ _ => true
  | _ => false

def compR (P : Program) (ops : Array Oper) (draw : Bool) : Option ACode :=
  match compL P ops ops.toList with
  | none => none
  | some l =>
    if !draw then some (if l.any fun o => isCallv o.k then .opsY l else .ops l) else
    if !Region.noSelect ops then none else
    match schedule ops l ops.size (Array.replicate ops.size false) with
    | some s => some (.ops s)
    | none => anyR P ops l

/-- code that the small machine has no word for: it answers nothing -/
def stuckA : ACode := .ops [⟨none, none, .ld true 1 (.c (.b true))⟩]

/-- no loop over a function within -/
def ACode.flat : ACode → Bool
  | .seq a b | .cond _ a b => a.flat && b.flat
  | .block _ a | .loop a => a.flat
  | .rng .. => false
  | _ => true

def compC (P : Program) : Code → Option ACode
  | .skip => some .skip
  | .label _ => some .skip
  | .region _ ops draw => some (match compR P ops draw with
    | some a => a
    | none => stuckA)
  | .seq a b => match compC P a, compC P b with
    | some a, some b => some (.seq a b)
    | _, _ => none
  | .cond c a b => match copd c, compC P a, compC P b with
    | some c, some a, some b => some (.cond c a b)
    | _, _, _ => some stuckA
  | .block id a => (compC P a).map (.block id)
  | .loop a => (compC P a).map .loop
  | .scope a => compC P a
  | .exit id => some (.exit id)
  | .ret => some .ret
  | .rangeFunc f ps a c => match copd f, compC P a, compC P c with
    | some x, some a, some c => some (if a.flat && c.flat then .rng x ps.toList a c else stuckA)
    | _, _, _ => some stuckA
  | _ => some stuckA

def AOp.in (m : Nat) (o : AOp) : Bool :=
  o.looks.all (fun n => Nat.blt n m) && (match o.dst with | some d => Nat.blt d m | none => true)

def ACode.in (m : Nat) : ACode → Bool
  | .ops l => l.all (AOp.in m)
  | .any l => l.all fun o => AOp.in m o.1
  | .flt l => l.all fun o => AOp.in m o.1
  | .seq a b => ACode.in m a && ACode.in m b
  | .cond c a b => (opdT c).all (fun n => Nat.blt n m) && ACode.in m a && ACode.in m b
  | .opsY l => l.all (AOp.in m)
  | .rng x ps a b => (opdT x).all (fun n => Nat.blt n m) && ps.all (fun n => Nat.blt n m) && ACode.in m a && ACode.in m b
  | .block _ a | .loop a => ACode.in m a
  | _ => true

def ARes.in (m : Nat) : ARes → Bool
  | .t n => Nat.blt n m
  | .c n _ _ => Nat.blt n m

def compRes (P : Program) : List ResultVar → Option (List ARes)
  | [] => some []
  | .tmp t :: l => (compRes P l).map (ARes.t t :: ·)
  | .cell a t :: l => match cagg P t, csize P t, compRes P l with
    | some ag, some n, some l => some (.c a (!ag) n :: l)
    | _, _, _ => none

def compF (P : Program) (fn : Func) : Option AFn :=
  match fn.body with
  | some c => match compRes P fn.results.toList, compC P c with
    | some r, some b => if b.in fn.ntmps && r.all (ARes.in fn.ntmps) && !(fn.name == "runtime.NumGoroutine") then some ⟨fn.ntmps, r, b⟩ else none
    | _, _ => none
  | none => none

end Go.Vm
