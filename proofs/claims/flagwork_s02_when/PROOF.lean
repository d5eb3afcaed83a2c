import PyProof.Rows.All
import Wide.All
import OpenK.AllK
import Wide.FinOn
import HandS.Base
import HandS.Call
import HandS.List
import HandS.Comp
import HandS.Ends
import HandS.Words
import HandS.Defaults
import HandS.Evl
import HandS.Wide
import HandS.Iter
import HandS.WideBits
import HandS.Spec
import HandS.CallLocal
import KE.KStateDown
import HandS.Head0
import HandS.Head1
import HandS.Head2
import HandS.Head3
import HandS.Head4
import HandS.HeadHook1
import HandS.HeadHook2
import KE.OsGo
import KE.OsHead
import PySem.Challenge.RW_flagwork_s02_when
set_option Elab.async false
set_option linter.all false
set_option maxRecDepth 100000
set_option maxHeartbeats 8000000
namespace My
open PySem
def m_has (flags : Int) (mark : Int) : Bool :=
  (decide ((Builtin.bitAnd flags mark) = mark))

def m_on_overflow (flags : Int) : Bool :=
  (m_has flags (2048 : Int))

def m_on_carry (flags : Int) : Bool :=
  (m_has flags (1 : Int))

def m_on_zero (flags : Int) : Bool :=
  (m_has flags (64 : Int))

def m_on_carry_or_zero (flags : Int) : Bool :=
  ((m_has flags (1 : Int)) || (m_has flags (64 : Int)))

def m_on_sign (flags : Int) : Bool :=
  (m_has flags (128 : Int))

def m_on_parity (flags : Int) : Bool :=
  (m_has flags (4 : Int))

def m_on_sign_not_overflow (flags : Int) : Bool :=
  (((m_has flags (128 : Int)) != (m_has flags (2048 : Int))))

def m_on_zero_or_sign_not_overflow (flags : Int) : Bool :=
  ((m_has flags (64 : Int)) || (m_on_sign_not_overflow flags))

def m_even_condition (even flags : Int) : Bool :=
  if even = 0 then m_on_overflow flags else
  if even = 2 then m_on_carry flags else
  if even = 4 then m_on_zero flags else
  if even = 6 then m_on_carry_or_zero flags else
  if even = 8 then m_on_sign flags else
  if even = 10 then m_on_parity flags else
  if even = 12 then m_on_sign_not_overflow flags else
  if even = 14 then m_on_zero_or_sign_not_overflow flags else
  false
def m_is_met (flags cond : Int) : Bool := m_even_condition (cond - cond % 2) flags != decide (cond % 2 = 1)

def m_when (flags : Int) (cond : Int) : List Int :=
  if (decide ((15 : Int) < cond)) = true then
    [(-(1 : Int))]
  else
    if (m_is_met flags cond) = true then
      [(1 : Int)]
    else
      [(0 : Int)]
end My

/-! ### One judgement for both: that the text has a reading, and what the reading comes to -/
namespace My
open PySem PyProof.Rows L2 Evl

def CE (X : Cx) (e : Expr) (σ : L2.St) (H : Hp) (v : V) : Prop := ∃ t, PE X e t ∧ Ev t σ H v
def CT (X : Cx) (e : Expr) (σ : L2.St) (H : Hp) (b : Bool) : Prop := ∃ t, PT X e t ∧ EvT t σ H b
def CW (X : Cx) (e : Expr) (σ : L2.St) (H : Hp) (b : Bool) : Prop := ∃ t, PW X e t ∧ EvT t σ H b
def CA (X : Cx) (es : List Expr) (σ : L2.St) (H : Hp) (vs : List V) : Prop := ∃ t, PA X es t ∧ EvA t σ H vs
def CL (X : Cx) (e : Expr) (σ : L2.St) (H : Hp) (xs : List V) : Prop := ∃ t, PE X e t ∧ EvL t σ H xs
def CU (X : Cx) (e : Expr) (σ : L2.St) (H : Hp) (xs : List V) : Prop := ∃ t, PE X e t ∧ EvU t σ H xs
/-- a block that ends by a return of what Q wants -/
def CR (X : Cx) (b : List Stmt) (σ : L2.St) (H : Hp) (Q : VK) : Prop := ∃ t, PSs X b t ∧ ∀ H1, Ex H H1 → ∀ D : Ends, D.rt = Q → t D σ H1
/-- a def of the module as its callers see it -/
def Has (P : Program) (w : World) (K : PySem.W.Frag) (mg : Str → Option Value) (base : Heap) (x : Str) (k : Nat) (sp : Sp) : Prop :=
  ∃ (f : Addr) (fd : FuncData) (ps : List Str), FnOk P w K mg base CX0 k f fd ps sp ∧ mg x = some (.ref f) ∧ PySem.W.keepIn K (.ref f) = true ∧ Binds K fd ps []
/-- a constant of the module -/
def Cst (mg : Str → Option Value) (x : Str) (i : Int) : Prop := ∃ t, mg x = some (.int i t)
def RetU (xs : List V) (H : Hp) (Q : VK) : Prop := ∀ p H2, H p = none → Ex H H2 → H2 p = some (.tup xs) → Q (.ref p) H2
def SpU (sp : Sp) (vs : List V) (H : Hp) (xs : List V) : Prop := ∀ H1, Ex H H1 → ∀ Q : VK, RetU xs H1 Q → ∀ E : XK, sp vs H1 Q E

section
variable {X : Cx} {σ : L2.St} {H : Hp} {a b c e : Expr} {pos : Pos} {i j : Int} {u v x y z : V} {es : List Expr} {vs : List V} {p q r : Bool} {Q : VK}

theorem ce_v {x : Str} (n : Nat) (h : PE X (.Name x pos) (tVar n)) (hv : σ[n]? = some (some v)) : CE X (.Name x pos) σ H v := ⟨_, h, ev_var hv⟩
theorem ce_i {n : Nat} : CE X (.Constant (.int i) n pos) σ H (.int i) := ⟨_, pe_int, ev_c⟩
theorem ce_b {n : Nat} : CE X (.Constant (.bool p) n pos) σ H (.bl p) := ⟨_, pe_bl, ev_c⟩
theorem ce_g {x : Str} (h : Cst X.mg x i) (hg : Gl X x) (hd : (x == ("__debug__" : Str)) = false) : CE X (.Name x pos) σ H (.int i) := by
  obtain ⟨t, ht⟩ := h
  exact ⟨_, pe_glob (v := .int i) hg ht ⟨t, rfl⟩ hd, ev_c⟩
theorem ce_op {op : Operator} {r : R2} (ho : OpR X (binaryOp op) r) (ha : CE X a σ H x) (hb : CE X b σ H y) (hr : RV r x y H z) : CE X (.BinOp a op b pos) σ H z := by
  obtain ⟨ta, pa, ea⟩ := ha
  obtain ⟨tb, pb, eb⟩ := hb
  exact ⟨_, pe_op ho pa pb, ev_op ea eb hr⟩
theorem ce_add (ha : CE X a σ H (.int i)) (hb : CE X b σ H (.int j)) : CE X (.BinOp a .Add b pos) σ H (.int (i + j)) := ce_op op_add ha hb rv_I0
theorem ce_sub (ha : CE X a σ H (.int i)) (hb : CE X b σ H (.int j)) : CE X (.BinOp a .Sub b pos) σ H (.int (i - j)) := ce_op op_sub ha hb rv_I0
theorem ce_and (ha : CE X a σ H (.int i)) (hb : CE X b σ H (.int j)) : CE X (.BinOp a .BitAnd b pos) σ H (.int (Builtin.bitAnd i j)) := ce_op op_and ha hb rv_I0
theorem ce_or (ha : CE X a σ H (.int i)) (hb : CE X b σ H (.int j)) : CE X (.BinOp a .BitOr b pos) σ H (.int (Builtin.bitOr i j)) := ce_op op_or ha hb rv_I0
theorem ce_xor (ha : CE X a σ H (.int i)) (hb : CE X b σ H (.int j)) : CE X (.BinOp a .BitXor b pos) σ H (.int (Builtin.bitXor i j)) := ce_op op_xor ha hb rv_I0
theorem ce_mul (ha : CE X a σ H (.int i)) (hb : CE X b σ H (.int j)) (hc : CMulW i j) : CE X (.BinOp a .Mult b pos) σ H (.int (i * j)) := ce_op op_mulW ha hb (rv_I hc)
theorem ce_div (ha : CE X a σ H (.int i)) (hb : CE X b σ H (.int j)) (hc : CDivW i j) : CE X (.BinOp a .FloorDiv b pos) σ H (.int (i / j)) := ce_op op_fdivW ha hb (rv_I hc)
theorem ce_mod (ha : CE X a σ H (.int i)) (hb : CE X b σ H (.int j)) (hc : 0 < j) : CE X (.BinOp a .Mod b pos) σ H (.int (i % j)) := ce_op op_mod ha hb (rv_I hc)
theorem ce_shl (ha : CE X a σ H (.int i)) (hb : CE X b σ H (.int j)) (hc : CShl i j) : CE X (.BinOp a .LShift b pos) σ H (.int (i * 2 ^ j.toNat)) := ce_op op_shlW ha hb (rv_I hc)
theorem ce_shr (ha : CE X a σ H (.int i)) (hb : CE X b σ H (.int j)) (hc : 0 ≤ j) : CE X (.BinOp a .RShift b pos) σ H (.int (i / 2 ^ j.toNat)) := ce_op op_shr ha hb (rv_I hc)
theorem ce_neg (ha : CE X a σ H (.int i)) : CE X (.UnaryOp .USub a pos) σ H (.int (-i)) := by
  obtain ⟨ta, pa, ea⟩ := ha
  exact ⟨_, pe_un un_neg pa, ev_un ea ru_neg⟩
theorem ce_inv (ha : CE X a σ H (.int i)) : CE X (.UnaryOp .Invert a pos) σ H (.int (Builtin.bitNot i)) := by
  obtain ⟨ta, pa, ea⟩ := ha
  exact ⟨_, pe_un un_inv pa, ev_un ea fun H1 _ _ q => ⟨i, rfl, q H1 (Ex.refl H1)⟩⟩
theorem ce_not (ha : CE X a σ H (.bl p)) : CE X (.UnaryOp .Not a pos) σ H (.bl (!p)) := by
  obtain ⟨ta, pa, ea⟩ := ha
  exact ⟨_, pe_not pa, ev_notV ea⟩
/-! comparisons -/
theorem rv_ieq : RV rEq (.int i) (.int j) H (.bl (decide (i = j))) := fun H1 e Q q => by
  refine rv_eq (H := H) rfl H1 e Q fun H2 e2 => ?_
  have h : decide (V.int i = V.int j) = decide (i = j) := by simp
  rw [h]
  exact q H2 e2
theorem rv_ine : RV rNe (.int i) (.int j) H (.bl (!decide (i = j))) := fun H1 e Q q => by
  refine rv_ne (H := H) rfl H1 e Q fun H2 e2 => ?_
  have h : decide (V.int i = V.int j) = decide (i = j) := by simp
  rw [h]
  exact q H2 e2
theorem rv_bne : RV rNe (.bl p) (.bl q) H (.bl (p != q)) := fun H1 e Q k => by
  refine rv_ne (H := H) rfl H1 e Q fun H2 e2 => ?_
  have h : (!decide (V.bl p = V.bl q)) = (p != q) := by
    cases p <;> cases q <;> decide
  rw [h]
  exact k H2 e2
theorem ce_cmp {op : CmpOp} {r : R2} (ho : OpR X (compareOp op) r) (ha : CE X a σ H x) (hb : CE X b σ H y) (hr : RV r x y H z) (hm : behindInMarks op b = false) : CE X (.Compare a [op] [b] pos) σ H z := by
  obtain ⟨ta, pa, ea⟩ := ha
  obtain ⟨tb, pb, eb⟩ := hb
  exact ⟨_, pe_cmpR ho pa pb hm, ev_op ea eb hr⟩
theorem ct_cmp {op : CmpOp} {r : R2} (ho : OpR X (compareOp op) r) (ha : CE X a σ H x) (hb : CE X b σ H y) (hr : RV r x y H (.bl p)) (hm : behindInMarks op b = false) : CT X (.Compare a [op] [b] pos) σ H p := by
  obtain ⟨ta, pa, ea⟩ := ha
  obtain ⟨tb, pb, eb⟩ := hb
  exact ⟨_, pt_cmpR ho pa pb hm, et_test (ev_op ea eb hr)⟩
theorem ev_chain {r r' : R2} {ta tb tc : TE} (ea : Ev ta σ H x) (eb : Ev tb σ H y) (ec : Ev tc σ H z) (hr : RV r x y H (.bl p)) (hr' : RV r' y z H (.bl q)) : Ev (tChain r r' ta tb tc) σ H (.bl (p && q)) := by
  intro H1 e Q k
  refine ea H1 e _ fun H2 e2 => eb H2 (e.trans e2) _ fun H3 e3 => hr H3 ((e.trans e2).trans e3) _ fun H4 e4 => ⟨p, rfl, ?_⟩
  cases p with
  | true =>
    show tc σ H4 _
    exact ec H4 (((e.trans e2).trans e3).trans e4) _ fun H5 e5 => hr' H5 ((((e.trans e2).trans e3).trans e4).trans e5) Q fun H6 e6 => k H6 ((((e2.trans e3).trans e4).trans e5).trans e6)
  | false =>
    show Q (.bl false) H4
    exact k H4 ((e2.trans e3).trans e4)
theorem ce_chain {op op' : CmpOp} {r r' : R2} (ho : OpR X (compareOp op) r) (ho' : OpR X (compareOp op') r') (ha : CE X a σ H x) (hb : CE X b σ H y) (hc : CE X c σ H z) (hr : RV r x y H (.bl p)) (hr' : RV r' y z H (.bl q))
    (hm : lastMarks [op, op'] [b, c] = false := by with_unfolding_all rfl) : CE X (.Compare a [op, op'] [b, c] pos) σ H (.bl (p && q)) := by
  obtain ⟨ta, pa, ea⟩ := ha
  obtain ⟨tb, pb, eb⟩ := hb
  obtain ⟨tc, pc, ec⟩ := hc
  exact ⟨_, pe_chain ho ho' pa pb pc hm, ev_chain ea eb ec hr hr'⟩
theorem ct_chain {op op' : CmpOp} {r r' : R2} (ho : OpR X (compareOp op) r) (ho' : OpR X (compareOp op') r') (ha : CE X a σ H x) (hb : CE X b σ H y) (hc : CE X c σ H z) (hr : RV r x y H (.bl p)) (hr' : RV r' y z H (.bl q))
    (hm : lastMarks [op, op'] [b, c] = false := by with_unfolding_all rfl) : CT X (.Compare a [op, op'] [b, c] pos) σ H (p && q) := by
  obtain ⟨ta, pa, ea⟩ := ha
  obtain ⟨tb, pb, eb⟩ := hb
  obtain ⟨tc, pc, ec⟩ := hc
  exact ⟨_, pt_chain ho ho' pa pb pc hm, et_test (ev_chain ea eb ec hr hr')⟩
/-! tests, and, or, if-else -/
theorem ct_val (h : CE X a σ H (.bl p)) (he : ∀ whole, isTrue a X.env whole = (do let v ← whole; standAt a.pos; holding [v] (truthy v)) := by intro _; rfl) : CT X a σ H p := by
  obtain ⟨ta, pa, ea⟩ := h
  exact ⟨_, pt_val pa he, et_B ea⟩
theorem ct_not (h : CT X a σ H p) : CT X (.UnaryOp .Not a pos) σ H (!p) := by
  obtain ⟨ta, pa, ea⟩ := h
  exact ⟨_, pt_not pa, et_not ea⟩
theorem ct_or (ha : CT X a σ H p) (hb : CT X b σ H q) : CT X (.BoolOp .Or [a, b] pos) σ H (p || q) := by
  obtain ⟨ta, pa, ea⟩ := ha
  obtain ⟨tb, pb, eb⟩ := hb
  exact ⟨_, (pw_or pa (pw_or1 pb)).pt, et_or ea fun _ => eb⟩
theorem ct_and (ha : CT X a σ H p) (hb : CT X b σ H q) : CT X (.BoolOp .And [a, b] pos) σ H (p && q) := by
  obtain ⟨ta, pa, ea⟩ := ha
  obtain ⟨tb, pb, eb⟩ := hb
  exact ⟨_, (pw_and pa (pw_and1 pb)).pt, et_and ea fun _ => eb⟩
theorem ce_bor (ha : CE X a σ H (.bl p)) (hb : CE X b σ H (.bl q)) : CE X (.BoolOp .Or [a, b] pos) σ H (.bl (p || q)) := by
  obtain ⟨ta, pa, ea⟩ := ha
  obtain ⟨tb, pb, eb⟩ := hb
  exact ⟨_, pe_or pa (pe_one pb), ev_orV ea fun _ => eb⟩
theorem ce_band (ha : CE X a σ H (.bl p)) (hb : CE X b σ H (.bl q)) : CE X (.BoolOp .And [a, b] pos) σ H (.bl (p && q)) := by
  obtain ⟨ta, pa, ea⟩ := ha
  obtain ⟨tb, pb, eb⟩ := hb
  exact ⟨_, pe_and pa (pe_one pb), ev_andV ea fun _ => eb⟩
theorem ce_if (hc : CT X c σ H p) (ha : CE X a σ H (.int i)) (hb : CE X b σ H (.int j)) : CE X (.IfExp c a b pos) σ H (.int (if p = true then i else j)) := by
  obtain ⟨tc, pc, ec⟩ := hc
  obtain ⟨ta, pa, ea⟩ := ha
  obtain ⟨tb, pb, eb⟩ := hb
  refine ⟨_, pe_ifExp pc pa pb, ev_if ec (fun h => ?_) (fun h => ?_)⟩
  · rw [if_pos h]
    exact ea
  · rw [if_neg (by rw [h]; exact Bool.false_ne_true)]
    exact eb
/-! arguments, calls -/
theorem ca_0 : CA X [] σ H [] := ⟨_, pa_nil, ea_nil⟩
theorem ca_1 (h : CE X e σ H v) (hr : CA X es σ H vs) (hs : starEach (e :: es) X.env = (false, eval e X.env) :: starEach es X.env := by rfl) : CA X (e :: es) σ H (v :: vs) := by
  obtain ⟨t, p, k⟩ := h
  obtain ⟨t2, p2, k2⟩ := hr
  exact ⟨_, pa_cons p p2 hs, ea_cons k k2⟩
theorem ce_call {k : Nat} {x : Str} {sp : Sp} {xp : Pos} (F : Has X.prog X.w X.K X.mg X.base x k sp) (hr : Room k X.A) (hg : Gl X x) (ha : CA X (e :: es) σ H vs) (hs : SpV sp vs H z) (hdb : (x == ("__debug__" : Str)) = false)
    (he : starEach (e :: es) X.env = (false, eval e X.env) :: starEach es X.env := by rfl) (hpl : (backTo pos (starEach es X.env)).any (·.1) = false := by rfl) : CE X (.Call (.Name x xp) (e :: es) [] pos) σ H z := by
  obtain ⟨f, fd, ps, G, gm, kp, bd⟩ := F
  obtain ⟨t, pa, ea⟩ := ha
  refine ⟨_, pe_call G hr hg gm kp bd .nil pass0 pa hdb he hpl, ev_call ea ?_⟩
  rw [List.append_nil]
  exact hs
theorem cl_call {k : Nat} {x : Str} {sp : Sp} {xp : Pos} {xs : List V} (F : Has X.prog X.w X.K X.mg X.base x k sp) (hr : Room k X.A) (hg : Gl X x) (ha : CA X (e :: es) σ H vs) (hs : SpL sp vs H xs) (hdb : (x == ("__debug__" : Str)) = false)
    (he : starEach (e :: es) X.env = (false, eval e X.env) :: starEach es X.env := by rfl) (hpl : (backTo pos (starEach es X.env)).any (·.1) = false := by rfl) : CL X (.Call (.Name x xp) (e :: es) [] pos) σ H xs := by
  obtain ⟨f, fd, ps, G, gm, kp, bd⟩ := F
  obtain ⟨t, pa, ea⟩ := ha
  refine ⟨_, pe_call G hr hg gm kp bd .nil pass0 pa hdb he hpl, el_call ea ?_⟩
  rw [List.append_nil]
  exact hs
theorem cu_call {k : Nat} {x : Str} {sp : Sp} {xp : Pos} {xs : List V} (F : Has X.prog X.w X.K X.mg X.base x k sp) (hr : Room k X.A) (hg : Gl X x) (ha : CA X (e :: es) σ H vs) (hs : SpU sp vs H xs) (hdb : (x == ("__debug__" : Str)) = false)
    (he : starEach (e :: es) X.env = (false, eval e X.env) :: starEach es X.env := by rfl) (hpl : (backTo pos (starEach es X.env)).any (·.1) = false := by rfl) : CU X (.Call (.Name x xp) (e :: es) [] pos) σ H xs := by
  obtain ⟨f, fd, ps, G, gm, kp, bd⟩ := F
  obtain ⟨t, pa, ea⟩ := ha
  refine ⟨_, pe_call G hr hg gm kp bd .nil pass0 pa hdb he hpl, fun H1 e1 Q q => ea H1 e1 _ fun H2 e2 => ?_⟩
  rw [List.append_nil]
  exact hs H2 (e1.trans e2) Q (fun p H3 hp e3 h3 => q p H3 (fresh_back e2 hp) (e2.trans e3) h3) _
theorem cl_lst (ha : CA X es σ H vs) (hl : vs.length ≤ 100000) : CL X (.List es pos) σ H vs := by
  obtain ⟨t, pa, ea⟩ := ha
  exact ⟨_, pe_lst pa, el_lst ea hl⟩
theorem cu_tup {n : Nat} (ha : CA X es σ H vs) (hl : vs.length ≤ 100000) : CU X (.Tuple es n pos) σ H vs := by
  obtain ⟨t, pa, ea⟩ := ha
  exact ⟨_, pe_tup pa, eu_tup ea hl⟩
theorem ce_abs {ap : Pos} (hm : X.mg "abs" = none) (hg : Gl X "abs") (ha : CA X (e :: es) σ H [.int i])
    (he : starEach (e :: es) X.env = (false, eval e X.env) :: starEach es X.env := by rfl) (hpl : (backTo pos (starEach es X.env)).any (·.1) = false := by rfl) : CE X (.Call (.Name "abs" ap) (e :: es) [] pos) σ H (.int (if i < 0 then -i else i)) := by
  obtain ⟨t, pa, ea⟩ := ha
  exact ⟨_, pe_callB call_abs hg hm boot_abs pa (by decide) (by decide) he hpl, ev_cb ea fun H1 _ _ q => ⟨i, rfl, q H1 (Ex.refl H1)⟩⟩
theorem ce_bits {ap : Pos} (ha : CE X a σ H (.int i)) (hbase : attributeBase a "bit_length" X.env (eval a X.env) = eval a X.env := by rfl) (hline : (ap.endLine == pos.line) = true := by rfl) :
    CE X (.Call (.Attribute a "bit_length" ap) [] [] pos) σ H (.int (Builtin.Int.intBits i : Nat)) := by
  obtain ⟨t, pa, ea⟩ := ha
  exact ⟨_, pe_bits pa hbase hline, fun H1 e1 Q q => ea H1 e1 _ fun H2 e2 => ⟨i, rfl, q H2 e2⟩⟩
/-- x not in a new tuple -/
theorem ct_niU {xs : List V} (ha : CE X a σ H x) (hb : CU X b σ H xs) (hx : flatV x = true) (hf : xs.all flatV = true) (hm : behindInMarks .NotIn b = false := by rfl) : CT X (.Compare a [.NotIn] [b] pos) σ H (!inV x xs) := by
  obtain ⟨ta, pa, ea⟩ := ha
  obtain ⟨tb, pb, eb⟩ := hb
  exact ⟨_, pt_cmpR op_notIn_seq pa pb hm, et_test (ev_niU ea eb hx hf)⟩
/-! statements -/
variable {st : Stmt} {body rest : List Stmt}
theorem cr_set {x : Str} {n : Nat} {p1 p2 : Pos} (he : CE X e σ H v) (hps : ∀ t, PE X e t → PS X (.Assign [.Name x p1] e p2) (tAsg t (gName n)))
    (k : CR X rest (σ.set n (some v)) H Q) : CR X (.Assign [.Name x p1] e p2 :: rest) σ H Q := by
  obtain ⟨t, pt, et⟩ := he
  obtain ⟨u, pu, eu⟩ := k
  exact ⟨_, pss_cons (hps t pt) pu, fun H1 e1 D hD => q_asg (et.mono e1) fun H2 e2 => eu H2 (e1.trans e2) D hD⟩
theorem cr_ret (he : CE X e σ H v) (hq : RetV v H Q) : CR X [.Return (some e) pos] σ H Q := by
  obtain ⟨t, pt, et⟩ := he
  refine ⟨_, pss_one (ps_ret pt), fun H1 e1 D hD => s_ret (et.mono e1) fun H2 e2 => ?_⟩
  rw [hD]
  exact hq H2 (e1.trans e2)
theorem cr_retL {xs : List V} (he : CL X e σ H xs) (hq : RetL xs H Q) : CR X [.Return (some e) pos] σ H Q := by
  obtain ⟨t, pt, et⟩ := he
  refine ⟨_, pss_one (ps_ret pt), fun H1 e1 D hD => s_retL (et.mono e1) fun p H2 hp e2 h2 => ?_⟩
  rw [hD]
  exact hq p H2 (fresh_back e1 hp) (e1.trans e2) h2
theorem cr_retU {xs : List V} (he : CU X e σ H xs) (hq : RetU xs H Q) : CR X [.Return (some e) pos] σ H Q := by
  obtain ⟨t, pt, et⟩ := he
  refine ⟨_, pss_one (ps_ret pt), fun H1 e1 D hD => et H1 e1 _ fun p H2 hp e2 h2 => ?_⟩
  rw [hD]
  exact hq p H2 (fresh_back e1 hp) (e1.trans e2) h2
/-- an if that returns; whichever way isn't gone needs no reading -/
theorem cr_if {rest : List Stmt} (hc : CT X c σ H p) (h1 : p = true → CR X body σ H Q) (h2 : p = false → CR X rest σ H Q) : CR X (.If c body [] pos :: rest) σ H Q := by
  obtain ⟨tc, pc, ec⟩ := hc
  cases p with
  | true =>
    obtain ⟨t, pt, kt⟩ := h1 rfl
    refine ⟨_, pss_cons (ps_if pc pt pss_nil) pss_never, fun H1 e1 D hD => q_when (ec.mono e1) (fun _ H2 e2 => kt H2 (e1.trans e2) _ hD) fun z => Bool.noConfusion z⟩
  | false =>
    obtain ⟨t, pt, kt⟩ := h2 rfl
    refine ⟨_, pss_cons (ps_if pc pss_never pss_nil) pt, fun H1 e1 D hD => q_when (ec.mono e1) (fun z => Bool.noConfusion z) fun _ H2 e2 => kt H2 (e1.trans e2) _ hD⟩
/-- an if that gives a name another number -/
theorem cr_ifset {x : Str} {n : Nat} {p1 p2 : Pos} {rest : List Stmt} (hc : CT X c σ H p) (he : p = true → CE X e σ H (.int i)) (hold : σ.set n (some (.int j)) = σ) (hps : ∀ t, PE X e t → PS X (.Assign [.Name x p1] e p2) (tAsg t (gName n)))
    (k : CR X rest (σ.set n (some (.int (if p = true then i else j)))) H Q) : CR X (.If c [.Assign [.Name x p1] e p2] [] pos :: rest) σ H Q := by
  obtain ⟨tc, pc, ec⟩ := hc
  cases p with
  | true =>
    obtain ⟨t, pt, kt⟩ := he rfl
    obtain ⟨u, pu, ku⟩ := k
    rw [if_pos rfl] at ku
    refine ⟨_, pss_cons (ps_if pc (pss_one (hps t pt)) pss_nil) pu, fun H1 e1 D hD => q_when (ec.mono e1) (fun _ H2 e2 => s_asg (kt.mono (e1.trans e2)) fun H3 e3 => ku H3 ((e1.trans e2).trans e3) D hD) fun z => Bool.noConfusion z⟩
  | false =>
    obtain ⟨u, pu, ku⟩ := k
    rw [if_neg Bool.false_ne_true, hold] at ku
    refine ⟨_, pss_cons (ps_if pc pss_never pss_nil) pu, fun H1 e1 D hD => q_when (ec.mono e1) (fun z => Bool.noConfusion z) fun _ H2 e2 => ku H2 (e1.trans e2) D hD⟩
end
theorem cshl {i j : Int} (n : Nat) (h : i.natAbs < 2 ^ n) (h0 : 0 ≤ j) (h1 : j ≤ 1000) (hn : n ≤ 1000 := by decide) : CShl i j := by
  obtain ⟨m, rfl⟩ := Int.eq_ofNat_of_zero_le h0
  exact shl_ok h (by omega)
end My

namespace My
open PySem PyProof.Rows L2 Evl
def top (i : Nat) : Stmt := PySem.Challenge.pw_flagwork_s02_when.main.body.getD i (.Pass ⟨0, 0, 0, 0⟩)
abbrev FnP (K : PySem.W.Frag) (x : Str) (st : Stmt) (f : Addr) (fd : FuncData) : Prop := FunD K x x (defArgs st) (defBody st) (defScope st) [] [] f fd
theorem cr_fin {X : Cx} {b : List Stmt} {σ : L2.St} {H : Hp} {Q : VK} (h : CR X.nox b σ H Q) : ∃ t, PSs X b t ∧ t { nx := fun _ H' => Q .non H', rt := Q } σ H := by
  obtain ⟨t, pt, kt⟩ := h
  exact ⟨t, PSs.nox pt, kt H (Ex.refl H) _ rfl⟩
section
variable {H : Hp} {Q : VK} {p : Bool} {i j : Int} {l k : List Int} {b c : Bool}
theorem retv_t (h : p = true) (hq : RetV (.int (if p = true then i else j)) H Q) : RetV (.int i) H Q := by
  rw [if_pos h] at hq
  exact hq
theorem retv_f (h : p = false) (hq : RetV (.int (if p = true then i else j)) H Q) : RetV (.int j) H Q := by
  rw [if_neg (by rw [h]; exact Bool.false_ne_true)] at hq
  exact hq
theorem retl_t (h : p = true) (hq : RetL ((if p = true then l else k).map V.int) H Q) : RetL (l.map V.int) H Q := by
  rw [if_pos h] at hq
  exact hq
theorem retl_f (h : p = false) (hq : RetL ((if p = true then l else k).map V.int) H Q) : RetL (k.map V.int) H Q := by
  rw [if_neg (by rw [h]; exact Bool.false_ne_true)] at hq
  exact hq
theorem retu_t (h : p = true) (hq : RetU ((if p = true then l else k).map V.int) H Q) : RetU (l.map V.int) H Q := by
  rw [if_pos h] at hq
  exact hq
theorem retu_f (h : p = false) (hq : RetU ((if p = true then l else k).map V.int) H Q) : RetU (k.map V.int) H Q := by
  rw [if_neg (by rw [h]; exact Bool.false_ne_true)] at hq
  exact hq
end

theorem ct_is {X : Cx} {e : Expr} {σ : L2.St} {H : Hp} {p q : Bool} (h : CT X e σ H p) (z : p = q) : CT X e σ H q := by
  rw [← z]
  exact h
theorem flat_ints (l : List Int) : (l.map V.int).all flatV = true := by
  rw [List.all_eq_true]
  intro x hx
  obtain ⟨i, _, rfl⟩ := List.mem_map.mp hx
  rfl
theorem inV_ints (i : Int) (l : List Int) : (!inV (.int i) (l.map V.int)) = !decide (i ∈ l) := by
  have h : inV (.int i) (l.map V.int) = decide (i ∈ l) := by
    rw [Bool.eq_iff_iff, decide_eq_true_eq]
    unfold inV
    rw [List.any_eq_true]
    constructor
    · rintro ⟨x, hx, hy⟩
      obtain ⟨j, hj, rfl⟩ := List.mem_map.mp hx
      have e : j = i := eq_of_beq (show (j == i) = true from hy)
      rw [← e]
      exact hj
    · intro hi
      exact ⟨.int i, List.mem_map.mpr ⟨i, hi, rfl⟩, beq_self_eq_true i⟩
  rw [h]
/-- a dict of the module: whole numbers to defs, told by their names -/
def ITab (mg : Str → Option Value) (K : PySem.W.Frag) (d : Addr) (kvs : List (Int × Str)) : Prop :=
  ∃ es n, K.lookup d = some ⟨.type "dict", none, .dict es n, #[]⟩ ∧ (∀ e ∈ es, ∃ k, Value.isInt k e.key = true ∧ e.hash = hashInt k) ∧ ∀ q ∈ kvs, ∃ a, findBy Value.isInt es q.1 = some (.ref a) ∧ mg q.2 = some (.ref a)
def Tab (mg : Str → Option Value) (K : PySem.W.Frag) (x : Str) (kvs : List (Int × Str)) : Prop := ∃ d, mg x = some (.ref d) ∧ ITab mg K d kvs
def rTab (d : Addr) (i : Int) (f : Addr) : R2 := fun x y H Q => x = .ref d ∧ y = .int i ∧ Q (.ref f) H
theorem ix_tab {X : Cx} {d f : Addr} {i : Int} {es : Array DictEntry} {n : Nat} (hl : X.K.lookup d = some ⟨.type "dict", none, .dict es n, #[]⟩) (hk : ∀ e ∈ es, ∃ k, Value.isInt k e.key = true ∧ e.hash = hashInt k)
    (hf : findBy Value.isInt es i = some (.ref f)) : IxR X (rTab d i f) := by
  intro value slice pins s σ H x y v u Q I rx ry h hs
  obtain ⟨rfl, rfl, q⟩ := h
  obtain rfl : v = Value.ref d := rx
  obtain ⟨t, rfl⟩ := ry
  have hm : s.heap.MapOf (PySem.intKind X.prog X.w) d (fun k => findBy Value.isInt es k) := ⟨_, es, n, I.kIn _ _ hl, ⟨rfl, rfl, rfl⟩, rfl, hk, fun _ => rfl⟩
  exact tail_any hm.typeIs slot_dict_getitem.lookup (wpAny_getItem_of (PySem.intKind_is X.prog X.w i t) hm hf ⟨.ref f, H, I.tok _, rfl, q⟩) hs
theorem cr_step {X : Cx} {σ : L2.St} {H : Hp} {Q : VK} {n k : Nat} {i : Int} {tx y sx : Str} {kvs : List (Int × Str)} {sp : Sp} {b e : Expr} {es : List Expr} {vs xs : List V} {p1 p2 p4 p5 p6 p7 : Pos}
    (T : Tab X.mg X.K tx kvs) (hkey : (i, y) ∈ kvs) (F : Has X.prog X.w X.K X.mg X.base y k sp) (hr : Room k X.A) (hs : SpL sp vs H xs) (hv : PE X (.Name sx p5) (tVar n)) (hi : CE X b σ H (.int i))
    (hset : ∀ v, (σ.set n (some v))[n]? = some (some v))
    (hps : ∀ t, PE X (.Subscript (.Name tx p2) b p4) t → PS X (.Assign [.Name sx p1] (.Subscript (.Name tx p2) b p4) p6) (tAsg t (gName n)))
    (ha : ∀ f, CA X (e :: es) (σ.set n (some (.ref f))) H vs) (hq : RetL xs H Q)
    (hg : Gl X tx := by rfl) (hd : (tx == ("__debug__" : Str)) = false := by decide) (hpx : PlainIx b := by exact fun _ _ => rfl) (hN : X.N[n]? = some sx := by rfl)
    (hvis : Vis X.env.scope sx := by first | exact Or.inl rfl | exact Or.inr (Or.inl rfl) | exact Or.inr (Or.inr rfl)) (hdb : (sx == ("__debug__" : Str)) = false := by decide) (hcd : (sx == ("__classdict__" : Str)) = false := by decide)
    (he : starEach (e :: es) X.env = (false, eval e X.env) :: starEach es X.env := by rfl) (hpl : (backTo p7 (starEach es X.env)).any (·.1) = false := by rfl) {p8 : Pos} :
    CR X [.Assign [.Name sx p1] (.Subscript (.Name tx p2) b p4) p6, .Return (some (.Call (.Name sx p5) (e :: es) [] p7)) p8] σ H Q := by
  obtain ⟨d, gd, es', n', hl, hk, hall⟩ := T
  obtain ⟨f, hf, gf⟩ := hall _ hkey
  obtain ⟨f2, fd, ps, G, gm, kp, bd⟩ := F
  have ef : f2 = f := by
    have z : some (Value.ref f2) = some (Value.ref f) := gm.symm.trans gf
    cases z
    rfl
  subst ef
  obtain ⟨tb, pb, eb⟩ := hi
  obtain ⟨ta, pa, ea⟩ := ha f2
  refine ⟨_, pss_cons (hps _ (pe_ix (ix_tab hl hk hf) (pe_glob (v := .ref d) hg gd rfl hd) pb hpx)) (pss_one (ps_ret (pe_callL (i := n) G hr hN hvis kp bd .nil pass0 pa hdb hcd he hpl))), fun H1 e1 D hD => ?_⟩
  refine q_asg (v := .ref f2) ((ev_op (x := .ref d) (y := .int i) ev_c eb fun H2 _ Q q => ⟨rfl, rfl, q H2 (Ex.refl H2)⟩).mono e1) fun H2 e2 => ?_
  refine ⟨hset _, ea H2 (e1.trans e2) _ fun H3 e3 => ?_⟩
  rw [List.append_nil]
  refine hs H3 ((e1.trans e2).trans e3) _ (fun p H4 hp e4 h4 => ?_) _
  rw [hD]
  exact hq p H4 (fresh_back ((e1.trans e2).trans e3) hp) (((e1.trans e2).trans e3).trans e4) h4
/-- x = TABLE[number], and the rest with that def in x -/
theorem cr_tab {X : Cx} {σ : L2.St} {H : Hp} {Q : VK} {n : Nat} {i j : Int} {tx y sx : Str} {kvs : List (Int × Str)} {b : Expr} {rest : List Stmt} {p1 p2 p4 p6 : Pos}
    (T : Tab X.mg X.K tx kvs) (hkey : (i, y) ∈ kvs) (hi : CE X b σ H (.int j)) (hj : j = i)
    (hps : ∀ t, PE X (.Subscript (.Name tx p2) b p4) t → PS X (.Assign [.Name sx p1] (.Subscript (.Name tx p2) b p4) p6) (tAsg t (gName n)))
    (k : ∀ f, X.mg y = some (.ref f) → CR X rest (σ.set n (some (.ref f))) H Q)
    (hg : Gl X tx := by rfl) (hd : (tx == ("__debug__" : Str)) = false := by decide) (hpx : PlainIx b := by exact fun _ _ => rfl) :
    CR X (.Assign [.Name sx p1] (.Subscript (.Name tx p2) b p4) p6 :: rest) σ H Q := by
  subst hj
  obtain ⟨d, gd, es', n', hl, hk, hall⟩ := T
  obtain ⟨f, hf, gf⟩ := hall _ hkey
  obtain ⟨tb, pb, eb⟩ := hi
  obtain ⟨u, pu, eu⟩ := k f gf
  refine ⟨_, pss_cons (hps _ (pe_ix (ix_tab hl hk hf) (pe_glob (v := .ref d) hg gd rfl hd) pb hpx)) pu, fun H1 e1 D hD => ?_⟩
  exact q_asg (v := .ref f) ((ev_op (x := .ref d) (y := .int j) ev_c eb fun H2 _ Q q => ⟨rfl, rfl, q H2 (Ex.refl H2)⟩).mono e1) fun H2 e2 => eu H2 (e1.trans e2) D hD
/-- a call of the def that a local name holds -/
theorem ce_callL {X : Cx} {σ : L2.St} {H : Hp} {n k : Nat} {y sx : Str} {sp : Sp} {f : Addr} {e : Expr} {es : List Expr} {vs : List V} {z : V} {p5 p7 : Pos}
    (F : Has X.prog X.w X.K X.mg X.base y k sp) (gf : X.mg y = some (.ref f)) (hr : Room k X.A) (hv : σ[n]? = some (some (.ref f))) (ha : CA X (e :: es) σ H vs) (hs : SpV sp vs H z)
    (hN : X.N[n]? = some sx := by rfl) (hvis : Vis X.env.scope sx := by first | exact Or.inl rfl | exact Or.inr (Or.inl rfl) | exact Or.inr (Or.inr rfl))
    (hdb : (sx == ("__debug__" : Str)) = false := by decide) (hcd : (sx == ("__classdict__" : Str)) = false := by decide)
    (he : starEach (e :: es) X.env = (false, eval e X.env) :: starEach es X.env := by rfl) (hpl : (backTo p7 (starEach es X.env)).any (·.1) = false := by rfl) : CE X (.Call (.Name sx p5) (e :: es) [] p7) σ H z := by
  obtain ⟨f2, fd, ps, G, gm, kp, bd⟩ := F
  have ef : f2 = f := by
    have q : some (Value.ref f2) = some (Value.ref f) := gm.symm.trans gf
    cases q
    rfl
  subst ef
  obtain ⟨ta, pa, ea⟩ := ha
  refine ⟨_, pe_callL (i := n) G hr hN hvis kp bd .nil pass0 pa hdb hcd he hpl, fun H1 e1 Q q => ⟨hv, ea H1 e1 _ fun H2 e2 => ?_⟩⟩
  rw [List.append_nil]
  exact hs H2 (e1.trans e2) Q (fun H3 e3 => q H3 (e2.trans e3)) _

abbrev s_has : Stmt := top 6
theorem sc_has : FnScope ["flags", "mark"] ["flags", "mark"] (defScope s_has) := ⟨rfl, rfl, rfl, by decide +kernel, rfl, by decide +kernel, by decide +kernel⟩

abbrev s_on_overflow : Stmt := top 7
theorem sc_on_overflow : FnScope ["flags"] ["flags"] (defScope s_on_overflow) := ⟨rfl, rfl, rfl, by decide +kernel, rfl, by decide +kernel, by decide +kernel⟩

abbrev s_on_carry : Stmt := top 8
theorem sc_on_carry : FnScope ["flags"] ["flags"] (defScope s_on_carry) := ⟨rfl, rfl, rfl, by decide +kernel, rfl, by decide +kernel, by decide +kernel⟩

abbrev s_on_zero : Stmt := top 9
theorem sc_on_zero : FnScope ["flags"] ["flags"] (defScope s_on_zero) := ⟨rfl, rfl, rfl, by decide +kernel, rfl, by decide +kernel, by decide +kernel⟩

abbrev s_on_carry_or_zero : Stmt := top 10
theorem sc_on_carry_or_zero : FnScope ["flags"] ["flags"] (defScope s_on_carry_or_zero) := ⟨rfl, rfl, rfl, by decide +kernel, rfl, by decide +kernel, by decide +kernel⟩

abbrev s_on_sign : Stmt := top 11
theorem sc_on_sign : FnScope ["flags"] ["flags"] (defScope s_on_sign) := ⟨rfl, rfl, rfl, by decide +kernel, rfl, by decide +kernel, by decide +kernel⟩

abbrev s_on_parity : Stmt := top 12
theorem sc_on_parity : FnScope ["flags"] ["flags"] (defScope s_on_parity) := ⟨rfl, rfl, rfl, by decide +kernel, rfl, by decide +kernel, by decide +kernel⟩

abbrev s_on_sign_not_overflow : Stmt := top 13
theorem sc_on_sign_not_overflow : FnScope ["flags"] ["flags"] (defScope s_on_sign_not_overflow) := ⟨rfl, rfl, rfl, by decide +kernel, rfl, by decide +kernel, by decide +kernel⟩

abbrev s_on_zero_or_sign_not_overflow : Stmt := top 14
theorem sc_on_zero_or_sign_not_overflow : FnScope ["flags"] ["flags"] (defScope s_on_zero_or_sign_not_overflow) := ⟨rfl, rfl, rfl, by decide +kernel, rfl, by decide +kernel, by decide +kernel⟩

abbrev s_is_met : Stmt := top 16
theorem sc_is_met : FnScope ["flags", "cond", "even"] ["flags", "cond"] (defScope s_is_met) := ⟨rfl, rfl, rfl, by decide +kernel, rfl, by decide +kernel, by decide +kernel⟩

abbrev s_when : Stmt := top 18
theorem sc_when : FnScope ["flags", "cond"] ["flags", "cond"] (defScope s_when) := ⟨rfl, rfl, rfl, by decide +kernel, rfl, by decide +kernel, by decide +kernel⟩

def sp_has : Sp := fun vs H Q _ => ∃ (flags : Int) (mark : Int), vs = [.int flags, .int mark] ∧ RetV (.bl (m_has flags mark)) H Q
theorem v_has {flags : Int} {mark : Int} {H : Hp} : SpV sp_has [.int flags, .int mark] H (.bl (m_has flags mark)) := fun _ _ _ q _ => ⟨flags, mark, rfl, q⟩

def sp_on_overflow : Sp := fun vs H Q _ => ∃ (flags : Int), vs = [.int flags] ∧ RetV (.bl (m_on_overflow flags)) H Q
theorem v_on_overflow {flags : Int} {H : Hp} : SpV sp_on_overflow [.int flags] H (.bl (m_on_overflow flags)) := fun _ _ _ q _ => ⟨flags, rfl, q⟩

def sp_on_carry : Sp := fun vs H Q _ => ∃ (flags : Int), vs = [.int flags] ∧ RetV (.bl (m_on_carry flags)) H Q
theorem v_on_carry {flags : Int} {H : Hp} : SpV sp_on_carry [.int flags] H (.bl (m_on_carry flags)) := fun _ _ _ q _ => ⟨flags, rfl, q⟩

def sp_on_zero : Sp := fun vs H Q _ => ∃ (flags : Int), vs = [.int flags] ∧ RetV (.bl (m_on_zero flags)) H Q
theorem v_on_zero {flags : Int} {H : Hp} : SpV sp_on_zero [.int flags] H (.bl (m_on_zero flags)) := fun _ _ _ q _ => ⟨flags, rfl, q⟩

def sp_on_carry_or_zero : Sp := fun vs H Q _ => ∃ (flags : Int), vs = [.int flags] ∧ RetV (.bl (m_on_carry_or_zero flags)) H Q
theorem v_on_carry_or_zero {flags : Int} {H : Hp} : SpV sp_on_carry_or_zero [.int flags] H (.bl (m_on_carry_or_zero flags)) := fun _ _ _ q _ => ⟨flags, rfl, q⟩

def sp_on_sign : Sp := fun vs H Q _ => ∃ (flags : Int), vs = [.int flags] ∧ RetV (.bl (m_on_sign flags)) H Q
theorem v_on_sign {flags : Int} {H : Hp} : SpV sp_on_sign [.int flags] H (.bl (m_on_sign flags)) := fun _ _ _ q _ => ⟨flags, rfl, q⟩

def sp_on_parity : Sp := fun vs H Q _ => ∃ (flags : Int), vs = [.int flags] ∧ RetV (.bl (m_on_parity flags)) H Q
theorem v_on_parity {flags : Int} {H : Hp} : SpV sp_on_parity [.int flags] H (.bl (m_on_parity flags)) := fun _ _ _ q _ => ⟨flags, rfl, q⟩

def sp_on_sign_not_overflow : Sp := fun vs H Q _ => ∃ (flags : Int), vs = [.int flags] ∧ RetV (.bl (m_on_sign_not_overflow flags)) H Q
theorem v_on_sign_not_overflow {flags : Int} {H : Hp} : SpV sp_on_sign_not_overflow [.int flags] H (.bl (m_on_sign_not_overflow flags)) := fun _ _ _ q _ => ⟨flags, rfl, q⟩

def sp_on_zero_or_sign_not_overflow : Sp := fun vs H Q _ => ∃ (flags : Int), vs = [.int flags] ∧ RetV (.bl (m_on_zero_or_sign_not_overflow flags)) H Q
theorem v_on_zero_or_sign_not_overflow {flags : Int} {H : Hp} : SpV sp_on_zero_or_sign_not_overflow [.int flags] H (.bl (m_on_zero_or_sign_not_overflow flags)) := fun _ _ _ q _ => ⟨flags, rfl, q⟩

def sp_is_met : Sp := fun vs H Q _ => ∃ (flags : Int) (cond : Int), vs = [.int flags, .int cond] ∧ (0 ≤ cond ∧ cond ≤ 15) ∧ RetV (.bl (m_is_met flags cond)) H Q
theorem v_is_met {flags : Int} {cond : Int} {H : Hp} (pre : 0 ≤ cond ∧ cond ≤ 15) : SpV sp_is_met [.int flags, .int cond] H (.bl (m_is_met flags cond)) := fun _ _ _ q _ => ⟨flags, cond, rfl, pre, q⟩

def sp_when : Sp := fun vs H Q _ => ∃ (flags : Int) (cond : Int), vs = [.int flags, .int cond] ∧ (0 ≤ cond) ∧ RetL ((m_when flags cond).map V.int) H Q
theorem v_when {flags : Int} {cond : Int} {H : Hp} (pre : 0 ≤ cond) : SpL sp_when [.int flags, .int cond] H ((m_when flags cond).map V.int) := fun _ _ _ q _ => ⟨flags, cond, rfl, pre, q⟩

section
variable {P : Program} {w : World} {K : PySem.W.Frag} {mg : Str → Option Value} {base : Heap}
theorem ok_has {f : Addr} {fd : FuncData} (F : FnP K "has" s_has f fd)  : FnOk P w K mg base CX0 1 f fd ["flags", "mark"] sp_has := by
  refine FunD.ok F sc_has (fun vs H Q E h => ?_) (fun cdv A outer s H vs Q E hr h => ?_)
  · obtain ⟨_, _, rfl, _⟩ := h
    rfl
  · obtain ⟨flags, mark, rfl, hq⟩ := h
    exact cr_fin (
        cr_ret (ce_cmp op_eq (ce_and (ce_v 0 (pv 0) rfl) (ce_v 1 (pv 1) rfl)) (ce_v 1 (pv 1) rfl) rv_ieq (nomark _)) hq)

theorem has_has {f : Addr} {fd : FuncData} (F : FnP K "has" s_has f fd) (g : mg "has" = some (.ref f))  : Has P w K mg base "has" 1 sp_has :=
  ⟨f, fd, _, ok_has F , g, F.kp, FunD.bindsN F fun _ _ _ _ _ _ us hl => match us, hl with | [_, _], _ => rfl⟩

theorem ok_on_overflow {f : Addr} {fd : FuncData} (F : FnP K "on_overflow" s_on_overflow f fd) (h_has : Has P w K mg base "has" 1 sp_has) (c_OVERFLOW : Cst mg "OVERFLOW" 2048) : FnOk P w K mg base CX0 2 f fd ["flags"] sp_on_overflow := by
  refine FunD.ok F sc_on_overflow (fun vs H Q E h => ?_) (fun cdv A outer s H vs Q E hr h => ?_)
  · obtain ⟨_, rfl, _⟩ := h
    rfl
  · obtain ⟨flags, rfl, hq⟩ := h
    exact cr_fin (
        cr_ret (ce_call h_has (hr.mono (by decide)) rfl (ca_1 (ce_v 0 (pv 0) rfl) (ca_1 (ce_g c_OVERFLOW rfl (by decide)) ca_0)) v_has (by decide)) hq)

theorem has_on_overflow {f : Addr} {fd : FuncData} (F : FnP K "on_overflow" s_on_overflow f fd) (g : mg "on_overflow" = some (.ref f)) (h_has : Has P w K mg base "has" 1 sp_has) (c_OVERFLOW : Cst mg "OVERFLOW" 2048) : Has P w K mg base "on_overflow" 2 sp_on_overflow :=
  ⟨f, fd, _, ok_on_overflow F h_has c_OVERFLOW, g, F.kp, FunD.bindsN F fun _ _ _ _ _ _ us hl => match us, hl with | [_], _ => rfl⟩

theorem ok_on_carry {f : Addr} {fd : FuncData} (F : FnP K "on_carry" s_on_carry f fd) (h_has : Has P w K mg base "has" 1 sp_has) (c_CARRY : Cst mg "CARRY" 1) : FnOk P w K mg base CX0 2 f fd ["flags"] sp_on_carry := by
  refine FunD.ok F sc_on_carry (fun vs H Q E h => ?_) (fun cdv A outer s H vs Q E hr h => ?_)
  · obtain ⟨_, rfl, _⟩ := h
    rfl
  · obtain ⟨flags, rfl, hq⟩ := h
    exact cr_fin (
        cr_ret (ce_call h_has (hr.mono (by decide)) rfl (ca_1 (ce_v 0 (pv 0) rfl) (ca_1 (ce_g c_CARRY rfl (by decide)) ca_0)) v_has (by decide)) hq)

theorem has_on_carry {f : Addr} {fd : FuncData} (F : FnP K "on_carry" s_on_carry f fd) (g : mg "on_carry" = some (.ref f)) (h_has : Has P w K mg base "has" 1 sp_has) (c_CARRY : Cst mg "CARRY" 1) : Has P w K mg base "on_carry" 2 sp_on_carry :=
  ⟨f, fd, _, ok_on_carry F h_has c_CARRY, g, F.kp, FunD.bindsN F fun _ _ _ _ _ _ us hl => match us, hl with | [_], _ => rfl⟩

theorem ok_on_zero {f : Addr} {fd : FuncData} (F : FnP K "on_zero" s_on_zero f fd) (h_has : Has P w K mg base "has" 1 sp_has) (c_ZERO : Cst mg "ZERO" 64) : FnOk P w K mg base CX0 2 f fd ["flags"] sp_on_zero := by
  refine FunD.ok F sc_on_zero (fun vs H Q E h => ?_) (fun cdv A outer s H vs Q E hr h => ?_)
  · obtain ⟨_, rfl, _⟩ := h
    rfl
  · obtain ⟨flags, rfl, hq⟩ := h
    exact cr_fin (
        cr_ret (ce_call h_has (hr.mono (by decide)) rfl (ca_1 (ce_v 0 (pv 0) rfl) (ca_1 (ce_g c_ZERO rfl (by decide)) ca_0)) v_has (by decide)) hq)

theorem has_on_zero {f : Addr} {fd : FuncData} (F : FnP K "on_zero" s_on_zero f fd) (g : mg "on_zero" = some (.ref f)) (h_has : Has P w K mg base "has" 1 sp_has) (c_ZERO : Cst mg "ZERO" 64) : Has P w K mg base "on_zero" 2 sp_on_zero :=
  ⟨f, fd, _, ok_on_zero F h_has c_ZERO, g, F.kp, FunD.bindsN F fun _ _ _ _ _ _ us hl => match us, hl with | [_], _ => rfl⟩

theorem ok_on_carry_or_zero {f : Addr} {fd : FuncData} (F : FnP K "on_carry_or_zero" s_on_carry_or_zero f fd) (h_has : Has P w K mg base "has" 1 sp_has) (c_CARRY : Cst mg "CARRY" 1) (c_ZERO : Cst mg "ZERO" 64) : FnOk P w K mg base CX0 2 f fd ["flags"] sp_on_carry_or_zero := by
  refine FunD.ok F sc_on_carry_or_zero (fun vs H Q E h => ?_) (fun cdv A outer s H vs Q E hr h => ?_)
  · obtain ⟨_, rfl, _⟩ := h
    rfl
  · obtain ⟨flags, rfl, hq⟩ := h
    exact cr_fin (
        cr_ret (ce_bor (ce_call h_has (hr.mono (by decide)) rfl (ca_1 (ce_v 0 (pv 0) rfl) (ca_1 (ce_g c_CARRY rfl (by decide)) ca_0)) v_has (by decide)) (ce_call h_has (hr.mono (by decide)) rfl (ca_1 (ce_v 0 (pv 0) rfl) (ca_1 (ce_g c_ZERO rfl (by decide)) ca_0)) v_has (by decide))) hq)

theorem has_on_carry_or_zero {f : Addr} {fd : FuncData} (F : FnP K "on_carry_or_zero" s_on_carry_or_zero f fd) (g : mg "on_carry_or_zero" = some (.ref f)) (h_has : Has P w K mg base "has" 1 sp_has) (c_CARRY : Cst mg "CARRY" 1) (c_ZERO : Cst mg "ZERO" 64) : Has P w K mg base "on_carry_or_zero" 2 sp_on_carry_or_zero :=
  ⟨f, fd, _, ok_on_carry_or_zero F h_has c_CARRY c_ZERO, g, F.kp, FunD.bindsN F fun _ _ _ _ _ _ us hl => match us, hl with | [_], _ => rfl⟩

theorem ok_on_sign {f : Addr} {fd : FuncData} (F : FnP K "on_sign" s_on_sign f fd) (h_has : Has P w K mg base "has" 1 sp_has) (c_SIGN : Cst mg "SIGN" 128) : FnOk P w K mg base CX0 2 f fd ["flags"] sp_on_sign := by
  refine FunD.ok F sc_on_sign (fun vs H Q E h => ?_) (fun cdv A outer s H vs Q E hr h => ?_)
  · obtain ⟨_, rfl, _⟩ := h
    rfl
  · obtain ⟨flags, rfl, hq⟩ := h
    exact cr_fin (
        cr_ret (ce_call h_has (hr.mono (by decide)) rfl (ca_1 (ce_v 0 (pv 0) rfl) (ca_1 (ce_g c_SIGN rfl (by decide)) ca_0)) v_has (by decide)) hq)

theorem has_on_sign {f : Addr} {fd : FuncData} (F : FnP K "on_sign" s_on_sign f fd) (g : mg "on_sign" = some (.ref f)) (h_has : Has P w K mg base "has" 1 sp_has) (c_SIGN : Cst mg "SIGN" 128) : Has P w K mg base "on_sign" 2 sp_on_sign :=
  ⟨f, fd, _, ok_on_sign F h_has c_SIGN, g, F.kp, FunD.bindsN F fun _ _ _ _ _ _ us hl => match us, hl with | [_], _ => rfl⟩

theorem ok_on_parity {f : Addr} {fd : FuncData} (F : FnP K "on_parity" s_on_parity f fd) (h_has : Has P w K mg base "has" 1 sp_has) (c_PARITY : Cst mg "PARITY" 4) : FnOk P w K mg base CX0 2 f fd ["flags"] sp_on_parity := by
  refine FunD.ok F sc_on_parity (fun vs H Q E h => ?_) (fun cdv A outer s H vs Q E hr h => ?_)
  · obtain ⟨_, rfl, _⟩ := h
    rfl
  · obtain ⟨flags, rfl, hq⟩ := h
    exact cr_fin (
        cr_ret (ce_call h_has (hr.mono (by decide)) rfl (ca_1 (ce_v 0 (pv 0) rfl) (ca_1 (ce_g c_PARITY rfl (by decide)) ca_0)) v_has (by decide)) hq)

theorem has_on_parity {f : Addr} {fd : FuncData} (F : FnP K "on_parity" s_on_parity f fd) (g : mg "on_parity" = some (.ref f)) (h_has : Has P w K mg base "has" 1 sp_has) (c_PARITY : Cst mg "PARITY" 4) : Has P w K mg base "on_parity" 2 sp_on_parity :=
  ⟨f, fd, _, ok_on_parity F h_has c_PARITY, g, F.kp, FunD.bindsN F fun _ _ _ _ _ _ us hl => match us, hl with | [_], _ => rfl⟩

theorem ok_on_sign_not_overflow {f : Addr} {fd : FuncData} (F : FnP K "on_sign_not_overflow" s_on_sign_not_overflow f fd) (h_has : Has P w K mg base "has" 1 sp_has) (c_SIGN : Cst mg "SIGN" 128) (c_OVERFLOW : Cst mg "OVERFLOW" 2048) : FnOk P w K mg base CX0 2 f fd ["flags"] sp_on_sign_not_overflow := by
  refine FunD.ok F sc_on_sign_not_overflow (fun vs H Q E h => ?_) (fun cdv A outer s H vs Q E hr h => ?_)
  · obtain ⟨_, rfl, _⟩ := h
    rfl
  · obtain ⟨flags, rfl, hq⟩ := h
    exact cr_fin (
        cr_ret (ce_cmp op_ne (ce_call h_has (hr.mono (by decide)) rfl (ca_1 (ce_v 0 (pv 0) rfl) (ca_1 (ce_g c_SIGN rfl (by decide)) ca_0)) v_has (by decide)) (ce_call h_has (hr.mono (by decide)) rfl (ca_1 (ce_v 0 (pv 0) rfl) (ca_1 (ce_g c_OVERFLOW rfl (by decide)) ca_0)) v_has (by decide)) rv_bne (nomark _)) hq)

theorem has_on_sign_not_overflow {f : Addr} {fd : FuncData} (F : FnP K "on_sign_not_overflow" s_on_sign_not_overflow f fd) (g : mg "on_sign_not_overflow" = some (.ref f)) (h_has : Has P w K mg base "has" 1 sp_has) (c_SIGN : Cst mg "SIGN" 128) (c_OVERFLOW : Cst mg "OVERFLOW" 2048) : Has P w K mg base "on_sign_not_overflow" 2 sp_on_sign_not_overflow :=
  ⟨f, fd, _, ok_on_sign_not_overflow F h_has c_SIGN c_OVERFLOW, g, F.kp, FunD.bindsN F fun _ _ _ _ _ _ us hl => match us, hl with | [_], _ => rfl⟩

theorem ok_on_zero_or_sign_not_overflow {f : Addr} {fd : FuncData} (F : FnP K "on_zero_or_sign_not_overflow" s_on_zero_or_sign_not_overflow f fd) (h_has : Has P w K mg base "has" 1 sp_has) (h_on_sign_not_overflow : Has P w K mg base "on_sign_not_overflow" 2 sp_on_sign_not_overflow) (c_ZERO : Cst mg "ZERO" 64) : FnOk P w K mg base CX0 3 f fd ["flags"] sp_on_zero_or_sign_not_overflow := by
  refine FunD.ok F sc_on_zero_or_sign_not_overflow (fun vs H Q E h => ?_) (fun cdv A outer s H vs Q E hr h => ?_)
  · obtain ⟨_, rfl, _⟩ := h
    rfl
  · obtain ⟨flags, rfl, hq⟩ := h
    exact cr_fin (
        cr_ret (ce_bor (ce_call h_has (hr.mono (by decide)) rfl (ca_1 (ce_v 0 (pv 0) rfl) (ca_1 (ce_g c_ZERO rfl (by decide)) ca_0)) v_has (by decide)) (ce_call h_on_sign_not_overflow (hr.mono (by decide)) rfl (ca_1 (ce_v 0 (pv 0) rfl) ca_0) v_on_sign_not_overflow (by decide))) hq)

theorem has_on_zero_or_sign_not_overflow {f : Addr} {fd : FuncData} (F : FnP K "on_zero_or_sign_not_overflow" s_on_zero_or_sign_not_overflow f fd) (g : mg "on_zero_or_sign_not_overflow" = some (.ref f)) (h_has : Has P w K mg base "has" 1 sp_has) (h_on_sign_not_overflow : Has P w K mg base "on_sign_not_overflow" 2 sp_on_sign_not_overflow) (c_ZERO : Cst mg "ZERO" 64) : Has P w K mg base "on_zero_or_sign_not_overflow" 3 sp_on_zero_or_sign_not_overflow :=
  ⟨f, fd, _, ok_on_zero_or_sign_not_overflow F h_has h_on_sign_not_overflow c_ZERO, g, F.kp, FunD.bindsN F fun _ _ _ _ _ _ us hl => match us, hl with | [_], _ => rfl⟩

theorem ok_is_met {f : Addr} {fd : FuncData} (F : FnP K "is_met" s_is_met f fd) (h_on_overflow : Has P w K mg base "on_overflow" 2 sp_on_overflow) (h_on_carry : Has P w K mg base "on_carry" 2 sp_on_carry) (h_on_zero : Has P w K mg base "on_zero" 2 sp_on_zero) (h_on_carry_or_zero : Has P w K mg base "on_carry_or_zero" 2 sp_on_carry_or_zero) (h_on_sign : Has P w K mg base "on_sign" 2 sp_on_sign) (h_on_parity : Has P w K mg base "on_parity" 2 sp_on_parity) (h_on_sign_not_overflow : Has P w K mg base "on_sign_not_overflow" 2 sp_on_sign_not_overflow) (h_on_zero_or_sign_not_overflow : Has P w K mg base "on_zero_or_sign_not_overflow" 3 sp_on_zero_or_sign_not_overflow) (t_EVEN_CONDITIONS : Tab mg K "EVEN_CONDITIONS" [(0, "on_overflow"), (2, "on_carry"), (4, "on_zero"), (6, "on_carry_or_zero"), (8, "on_sign"), (10, "on_parity"), (12, "on_sign_not_overflow"), (14, "on_zero_or_sign_not_overflow")]) : FnOk P w K mg base CX0 4 f fd ["flags", "cond"] sp_is_met := by
  refine FunD.ok F sc_is_met (fun vs H Q E h => ?_) (fun cdv A outer s H vs Q E hr h => ?_)
  · obtain ⟨_, _, rfl, _⟩ := h
    rfl
  · obtain ⟨flags, cond, rfl, pre, hq⟩ := h
    have hop : cond - cond % 2 = 0 ∨ cond - cond % 2 = 2 ∨ cond - cond % 2 = 4 ∨ cond - cond % 2 = 6 ∨ cond - cond % 2 = 8 ∨ cond - cond % 2 = 10 ∨ cond - cond % 2 = 12 ∨ cond - cond % 2 = 14 := by omega
    refine cr_fin ?_
    unfold m_is_met m_even_condition at hq
    rcases hop with he | he | he | he | he | he | he | he <;> rw [he] at hq
    · exact cr_tab (n := 2) (i := 0) (y := "on_overflow") t_EVEN_CONDITIONS (by decide) (ce_sub (ce_v 1 (pv 1) rfl) (ce_mod (ce_v 1 (pv 1) rfl) ce_i (by omega))) he (fun _ h => ps_set (i := 2) sc_is_met.nd rfl (Or.inl rfl) h) (fun f gf => cr_ret (ce_cmp op_ne (ce_callL (n := 2) h_on_overflow gf (hr.mono (by decide)) rfl (ca_1 (ce_v 0 (pv 0) rfl) ca_0) v_on_overflow) (ce_cmp op_eq (ce_mod (ce_v 1 (pv 1) rfl) ce_i (by omega)) ce_i rv_ieq (nomark _)) rv_bne (nomark _)) hq)
    · exact cr_tab (n := 2) (i := 2) (y := "on_carry") t_EVEN_CONDITIONS (by decide) (ce_sub (ce_v 1 (pv 1) rfl) (ce_mod (ce_v 1 (pv 1) rfl) ce_i (by omega))) he (fun _ h => ps_set (i := 2) sc_is_met.nd rfl (Or.inl rfl) h) (fun f gf => cr_ret (ce_cmp op_ne (ce_callL (n := 2) h_on_carry gf (hr.mono (by decide)) rfl (ca_1 (ce_v 0 (pv 0) rfl) ca_0) v_on_carry) (ce_cmp op_eq (ce_mod (ce_v 1 (pv 1) rfl) ce_i (by omega)) ce_i rv_ieq (nomark _)) rv_bne (nomark _)) hq)
    · exact cr_tab (n := 2) (i := 4) (y := "on_zero") t_EVEN_CONDITIONS (by decide) (ce_sub (ce_v 1 (pv 1) rfl) (ce_mod (ce_v 1 (pv 1) rfl) ce_i (by omega))) he (fun _ h => ps_set (i := 2) sc_is_met.nd rfl (Or.inl rfl) h) (fun f gf => cr_ret (ce_cmp op_ne (ce_callL (n := 2) h_on_zero gf (hr.mono (by decide)) rfl (ca_1 (ce_v 0 (pv 0) rfl) ca_0) v_on_zero) (ce_cmp op_eq (ce_mod (ce_v 1 (pv 1) rfl) ce_i (by omega)) ce_i rv_ieq (nomark _)) rv_bne (nomark _)) hq)
    · exact cr_tab (n := 2) (i := 6) (y := "on_carry_or_zero") t_EVEN_CONDITIONS (by decide) (ce_sub (ce_v 1 (pv 1) rfl) (ce_mod (ce_v 1 (pv 1) rfl) ce_i (by omega))) he (fun _ h => ps_set (i := 2) sc_is_met.nd rfl (Or.inl rfl) h) (fun f gf => cr_ret (ce_cmp op_ne (ce_callL (n := 2) h_on_carry_or_zero gf (hr.mono (by decide)) rfl (ca_1 (ce_v 0 (pv 0) rfl) ca_0) v_on_carry_or_zero) (ce_cmp op_eq (ce_mod (ce_v 1 (pv 1) rfl) ce_i (by omega)) ce_i rv_ieq (nomark _)) rv_bne (nomark _)) hq)
    · exact cr_tab (n := 2) (i := 8) (y := "on_sign") t_EVEN_CONDITIONS (by decide) (ce_sub (ce_v 1 (pv 1) rfl) (ce_mod (ce_v 1 (pv 1) rfl) ce_i (by omega))) he (fun _ h => ps_set (i := 2) sc_is_met.nd rfl (Or.inl rfl) h) (fun f gf => cr_ret (ce_cmp op_ne (ce_callL (n := 2) h_on_sign gf (hr.mono (by decide)) rfl (ca_1 (ce_v 0 (pv 0) rfl) ca_0) v_on_sign) (ce_cmp op_eq (ce_mod (ce_v 1 (pv 1) rfl) ce_i (by omega)) ce_i rv_ieq (nomark _)) rv_bne (nomark _)) hq)
    · exact cr_tab (n := 2) (i := 10) (y := "on_parity") t_EVEN_CONDITIONS (by decide) (ce_sub (ce_v 1 (pv 1) rfl) (ce_mod (ce_v 1 (pv 1) rfl) ce_i (by omega))) he (fun _ h => ps_set (i := 2) sc_is_met.nd rfl (Or.inl rfl) h) (fun f gf => cr_ret (ce_cmp op_ne (ce_callL (n := 2) h_on_parity gf (hr.mono (by decide)) rfl (ca_1 (ce_v 0 (pv 0) rfl) ca_0) v_on_parity) (ce_cmp op_eq (ce_mod (ce_v 1 (pv 1) rfl) ce_i (by omega)) ce_i rv_ieq (nomark _)) rv_bne (nomark _)) hq)
    · exact cr_tab (n := 2) (i := 12) (y := "on_sign_not_overflow") t_EVEN_CONDITIONS (by decide) (ce_sub (ce_v 1 (pv 1) rfl) (ce_mod (ce_v 1 (pv 1) rfl) ce_i (by omega))) he (fun _ h => ps_set (i := 2) sc_is_met.nd rfl (Or.inl rfl) h) (fun f gf => cr_ret (ce_cmp op_ne (ce_callL (n := 2) h_on_sign_not_overflow gf (hr.mono (by decide)) rfl (ca_1 (ce_v 0 (pv 0) rfl) ca_0) v_on_sign_not_overflow) (ce_cmp op_eq (ce_mod (ce_v 1 (pv 1) rfl) ce_i (by omega)) ce_i rv_ieq (nomark _)) rv_bne (nomark _)) hq)
    · exact cr_tab (n := 2) (i := 14) (y := "on_zero_or_sign_not_overflow") t_EVEN_CONDITIONS (by decide) (ce_sub (ce_v 1 (pv 1) rfl) (ce_mod (ce_v 1 (pv 1) rfl) ce_i (by omega))) he (fun _ h => ps_set (i := 2) sc_is_met.nd rfl (Or.inl rfl) h) (fun f gf => cr_ret (ce_cmp op_ne (ce_callL (n := 2) h_on_zero_or_sign_not_overflow gf (hr.mono (by decide)) rfl (ca_1 (ce_v 0 (pv 0) rfl) ca_0) v_on_zero_or_sign_not_overflow) (ce_cmp op_eq (ce_mod (ce_v 1 (pv 1) rfl) ce_i (by omega)) ce_i rv_ieq (nomark _)) rv_bne (nomark _)) hq)

theorem has_is_met {f : Addr} {fd : FuncData} (F : FnP K "is_met" s_is_met f fd) (g : mg "is_met" = some (.ref f)) (h_on_overflow : Has P w K mg base "on_overflow" 2 sp_on_overflow) (h_on_carry : Has P w K mg base "on_carry" 2 sp_on_carry) (h_on_zero : Has P w K mg base "on_zero" 2 sp_on_zero) (h_on_carry_or_zero : Has P w K mg base "on_carry_or_zero" 2 sp_on_carry_or_zero) (h_on_sign : Has P w K mg base "on_sign" 2 sp_on_sign) (h_on_parity : Has P w K mg base "on_parity" 2 sp_on_parity) (h_on_sign_not_overflow : Has P w K mg base "on_sign_not_overflow" 2 sp_on_sign_not_overflow) (h_on_zero_or_sign_not_overflow : Has P w K mg base "on_zero_or_sign_not_overflow" 3 sp_on_zero_or_sign_not_overflow) (t_EVEN_CONDITIONS : Tab mg K "EVEN_CONDITIONS" [(0, "on_overflow"), (2, "on_carry"), (4, "on_zero"), (6, "on_carry_or_zero"), (8, "on_sign"), (10, "on_parity"), (12, "on_sign_not_overflow"), (14, "on_zero_or_sign_not_overflow")]) : Has P w K mg base "is_met" 4 sp_is_met :=
  ⟨f, fd, _, ok_is_met F h_on_overflow h_on_carry h_on_zero h_on_carry_or_zero h_on_sign h_on_parity h_on_sign_not_overflow h_on_zero_or_sign_not_overflow t_EVEN_CONDITIONS, g, F.kp, FunD.bindsN F fun _ _ _ _ _ _ us hl => match us, hl with | [_, _], _ => rfl⟩

theorem ok_when {f : Addr} {fd : FuncData} (F : FnP K "when" s_when f fd) (h_is_met : Has P w K mg base "is_met" 4 sp_is_met) : FnOk P w K mg base CX0 5 f fd ["flags", "cond"] sp_when := by
  refine FunD.ok F sc_when (fun vs H Q E h => ?_) (fun cdv A outer s H vs Q E hr h => ?_)
  · obtain ⟨_, _, rfl, _⟩ := h
    rfl
  · obtain ⟨flags, cond, rfl, pre, hq⟩ := h
    exact cr_fin (
        cr_if (ct_cmp op_gt (ce_v 1 (pv 1) rfl) ce_i rv_I0 (nomark _)) (fun hp1 =>
          cr_retL (cl_lst (ca_1 (ce_neg ce_i) ca_0) (by exact (by decide : 1 ≤ 100000))) (retl_t hp1 hq)) fun hp1 =>
        cr_if (ct_val (ce_call h_is_met (hr.mono (by decide)) rfl (ca_1 (ce_v 0 (pv 0) rfl) (ca_1 (ce_v 1 (pv 1) rfl) ca_0)) (v_is_met (by have := of_decide_eq_false hp1; omega)) (by decide))) (fun hp2 =>
          cr_retL (cl_lst (ca_1 ce_i ca_0) (by exact (by decide : 1 ≤ 100000))) (retl_t hp2 (retl_f hp1 hq))) fun hp2 =>
        cr_retL (cl_lst (ca_1 ce_i ca_0) (by exact (by decide : 1 ≤ 100000))) (retl_f hp2 (retl_f hp1 hq)))

theorem has_when {f : Addr} {fd : FuncData} (F : FnP K "when" s_when f fd) (g : mg "when" = some (.ref f)) (h_is_met : Has P w K mg base "is_met" 4 sp_is_met) : Has P w K mg base "when" 5 sp_when :=
  ⟨f, fd, _, ok_when F h_is_met, g, F.kp, FunD.bindsN F fun _ _ _ _ _ _ us hl => match us, hl with | [_, _], _ => rfl⟩

end
end My

/-! ### What is due of when, and that the mirror is that -/
namespace My
open PySem PyProof.Rows
theorem has_bit {f i : Nat} {m : Int} (hm : m = 2 ^ i) : m_has (f : Int) m = FwOps.bitAt f i := by
  unfold m_has FwOps.bitAt
  rw [hm, PySem.W.kbt_bit, decide_eq_decide]
  have e : (f : Int) / 2 ^ i % 2 = ((f / 2 ^ i % 2 : Nat) : Int) := by
    rw [← PySem.W.kbt_cast]
    rfl
  have hp : (0 : Int) < 2 ^ i := PySem.W.kbt_pos i
  rw [e]
  rcases Nat.mod_two_eq_zero_or_one (f / 2 ^ i) with q | q <;> rw [q]
  · constructor
    · intro h
      have h2 : (0 : Int) * 2 ^ i = 2 ^ i := h
      rw [Int.zero_mul] at h2
      omega
    · intro h
      cases h
  · exact ⟨fun _ => rfl, fun _ => Int.one_mul _⟩
section
variable {f : Nat}
theorem on_o : m_on_overflow (f : Int) = FwOps.bitAt f 11 := has_bit (f := f) (i := 11) (m := 2048) rfl
theorem on_c : m_on_carry (f : Int) = FwOps.bitAt f 0 := has_bit (f := f) (i := 0) (m := 1) rfl
theorem on_z : m_on_zero (f : Int) = FwOps.bitAt f 6 := has_bit (f := f) (i := 6) (m := 64) rfl
theorem on_s : m_on_sign (f : Int) = FwOps.bitAt f 7 := has_bit (f := f) (i := 7) (m := 128) rfl
theorem on_p : m_on_parity (f : Int) = FwOps.bitAt f 2 := has_bit (f := f) (i := 2) (m := 4) rfl
theorem on_cz : m_on_carry_or_zero (f : Int) = (FwOps.bitAt f 0 || FwOps.bitAt f 6) := by
  unfold m_on_carry_or_zero
  rw [has_bit (f := f) (i := 0) (m := 1) rfl, has_bit (f := f) (i := 6) (m := 64) rfl]
theorem on_so : m_on_sign_not_overflow (f : Int) = (FwOps.bitAt f 7 != FwOps.bitAt f 11) := by
  unfold m_on_sign_not_overflow
  rw [has_bit (f := f) (i := 7) (m := 128) rfl, has_bit (f := f) (i := 11) (m := 2048) rfl]
theorem on_zso : m_on_zero_or_sign_not_overflow (f : Int) = (FwOps.bitAt f 6 || FwOps.bitAt f 7 != FwOps.bitAt f 11) := by
  unfold m_on_zero_or_sign_not_overflow
  rw [has_bit (f := f) (i := 6) (m := 64) rfl, on_so]
end
/-- a condition, by its even number's half -/
def evenDue (f : Nat) : Nat → Bool
  | 0 => FwOps.bitAt f 11
  | 1 => FwOps.bitAt f 0
  | 2 => FwOps.bitAt f 6
  | 3 => FwOps.bitAt f 0 || FwOps.bitAt f 6
  | 4 => FwOps.bitAt f 7
  | 5 => FwOps.bitAt f 2
  | 6 => FwOps.bitAt f 7 != FwOps.bitAt f 11
  | _ => FwOps.bitAt f 6 || FwOps.bitAt f 7 != FwOps.bitAt f 11
theorem holds_by (f c : Nat) : FwOps.holds f c = (evenDue f (c / 2) != decide (c % 2 = 1)) := by
  unfold FwOps.holds evenDue
  rfl
theorem even_by (f : Nat) : ∀ q : Nat, q ≤ 7 → m_even_condition ((2 * q : Nat) : Int) (f : Int) = evenDue f q
  | 0, _ => on_o
  | 1, _ => on_c
  | 2, _ => on_z
  | 3, _ => on_cz
  | 4, _ => on_s
  | 5, _ => on_p
  | 6, _ => on_so
  | 7, _ => on_zso
  | n + 8, h => absurd h (by omega)
theorem met_is {f c : Nat} (h : c ≤ 15) : m_is_met (f : Int) (c : Int) = FwOps.holds f c := by
  unfold m_is_met
  have e : (c : Int) - (c : Int) % 2 = ((2 * (c / 2) : Nat) : Int) := by omega
  have e2 : decide ((c : Int) % 2 = 1) = decide (c % 2 = 1) := by
    rw [decide_eq_decide]
    omega
  rw [e, e2, even_by f (c / 2) (by omega), holds_by]
theorem nat_q (n : Nat) : FwLines.nat? (n : Int) = some n := by
  unfold FwLines.nat?
  rw [if_pos (by omega), Int.toNat_natCast]
theorem spec_when (f c : Nat) : PyWqacds.when (f : Int) (c : Int) = [if 15 < c then -1 else if FwOps.holds f c = true then 1 else 0] := by
  unfold PyWqacds.when Neutral.step Neutral.callOf
  simp only [nat_q]
  rfl
theorem mirror_nat (f c : Nat) : m_when (f : Int) (c : Int) = PyWqacds.when (f : Int) (c : Int) := by
  rw [spec_when]
  unfold m_when
  by_cases h : 15 < c
  · rw [if_pos h, if_pos (decide_eq_true (by omega))]
  · rw [if_neg h, if_neg (by rw [decide_eq_true_eq]; omega), met_is (by omega)]
    by_cases q : FwOps.holds f c = true
    · rw [if_pos q, if_pos q]
    · rw [if_neg q, if_neg q]
theorem mirror_is {flags cond : Int} (h1 : 0 ≤ flags ∧ flags ≤ 4294967295) (h2 : 0 ≤ cond ∧ cond ≤ 255) : m_when flags cond = PyWqacds.when flags cond := by
  obtain ⟨f, rfl⟩ := Int.eq_ofNat_of_zero_le h1.1
  obtain ⟨c, rfl⟩ := Int.eq_ofNat_of_zero_le h2.1
  exact mirror_nat f c
end My

/-! ### The end: what the top has left (one run in the kernel, looked at by names), and the row -/
namespace My
open PySem PyProof.Rows L2 Evl
def keyB (e : DictEntry) : Bool := match e.key with
  | .int i _ => decide (e.hash = hashInt i)
  | _ => false
def valB (K : PySem.W.Frag) (es : Array DictEntry) (q : Int × Str) : Bool := match findBy Value.isInt es q.1 with
  | some (.ref a) => decide (a = He.ga K q.2)
  | _ => false
/-- the module's name t.1 is a dict of whole numbers to the defs so named -/
def tabB (K : PySem.W.Frag) (t : Str × List (Int × Str)) : Bool := match K.lookup (He.ga K t.1) with
  | some ⟨.type c, none, .dict es _, sl⟩ => (decide (c = "dict") && sl.isEmpty) && (es.toList.all keyB && t.2.all (valB K es))
  | _ => false
theorem tab_ok {K : PySem.W.Frag} {mg : Str → Option Value} {t : Str × List (Int × Str)} (h : tabB K t = true) (g : mg t.1 = some (.ref (He.ga K t.1))) (gs : ∀ q ∈ t.2, mg q.2 = some (.ref (He.ga K q.2))) : Tab mg K t.1 t.2 := by
  unfold tabB at h
  cases e : K.lookup (He.ga K t.1) with
  | none =>
    rw [e] at h
    cases h
  | some ob =>
    obtain ⟨oc, od, dt, osl⟩ := ob
    rw [e] at h
    cases oc with
    | type c =>
      cases od with
      | none =>
        cases dt with
        | dict es n =>
          have h1 : ((decide (c = "dict") && osl.isEmpty) && (es.toList.all keyB && t.2.all (valB K es))) = true := h
          rw [Bool.and_eq_true, Bool.and_eq_true, Bool.and_eq_true] at h1
          obtain ⟨⟨h2, h3⟩, h4, h5⟩ := h1
          have e1 : c = "dict" := of_decide_eq_true h2
          have e2 : osl = #[] := Array.isEmpty_iff.mp h3
          subst e1 e2
          refine ⟨_, g, es, n, e, fun d hd => ?_, fun q hq => ?_⟩
          · have k1 := List.all_eq_true.mp h4 d (Array.mem_toList_iff.mpr hd)
            unfold keyB at k1
            split at k1
            · rename_i i t ek
              refine ⟨i, ?_, of_decide_eq_true k1⟩
              rw [ek]
              simp [Value.isInt]
            · cases k1
          · have k1 := List.all_eq_true.mp h5 q hq
            unfold valB at k1
            split at k1
            · rename_i a ea
              have e3 : a = He.ga K q.2 := of_decide_eq_true k1
              exact ⟨a, ea, by rw [e3]; exact gs q hq⟩
            · cases k1
        | _ => cases h
      | some b => cases dt <;> cases h
    | _ => cases od <;> cases dt <;> cases h
abbrev Seen : Type := He.AlD × Bool
def seen (fa : List He.Fa) (fn : List He.DefD) (ts : List (Str × List (Int × Str))) (K : PySem.W.Frag) : Seen := (He.obsD fa fn K, ts.all (tabB K))
def seenG (n : Nat) (fa : List He.Fa) (fn : List He.DefD) (ts : List (Str × List (Int × Str))) (g : Addr → Option Obj) : Seen := seen fa fn ts (He.frG g (He.asD g n))
def look (n : Nat) (fa : List He.Fa) (fn : List He.DefD) (ts : List (Str × List (Int × Str))) : PySem.W.Hook where
  α := Seen
  obs := fun sh => seenG n fa fn ts sh.heap.get?
  val := fun _ => (He.valD fn, true)
  says := fun _ hp => ∃ K : PySem.W.Frag, K.In hp ∧ seen fa fn ts K = (He.valD fn, true)
  of := fun _ _ z => ⟨_, He.frG_in, z⟩
  keeps := fun _ _ _ ⟨K, inK, z⟩ kp => ⟨K, PySem.W.Frag.In.keeps inK kp, z⟩
/-- the end of a Spec row where the written part is told by what was seen -/
theorem walk_here {r : PySem.W.OpenSpec} {k : Nat} {q : Program} {lo : List Str} {XP : (Str → Option Value) → Heap → Prop} {YP : World → Heap → Prop} {d : DefRec} {ps : List Str} {sp : Sp}
    (well : r.wellSaid = true) (len : r.args.length = ps.length) (room : Room k callerA)
    (F : ∀ (w : World) (mg : Str → Option Value) (fa : Addr) (h : Heap), YP w h → h.Ns mainGlobals mg → mg d.name = some (.ref fa) →
      ∃ (K : PySem.W.Frag) (fd : FuncData), K.In h ∧ (∀ (s : Shared) (us : List Value), us.length = ps.length → BindsTo s fd ⟨us, []⟩ (ps.zip us)) ∧ ∀ base : Heap, FnOk r.prog w K mg base CX0 k fa fd ps sp)
    (hsp : ∀ (K : PySem.W.Frag) (H : Hp) (xs : List V) (a : PySem.W.Codec.denoteAll r.args), PySem.W.Codec.withinAll r.args a = true → DwAll K H xs (PySem.W.Codec.encAll r.args a) →
      sp xs H (fun v H' => Dw K H' v (r.ret.enc (PySem.W.Codec.app r.args r.f a))) fun _ _ _ => False) :
    PySem.W.WalkOS q lo XP YP r d [] (fun f vs => PySem.call f vs) := by
  intro w s0 s1 mg mb G Y fa o pm cd doc dV kV
  intro h1 h2 h3 h4 hmg hgens args vals as hpre hlay hread hwell hl
  obtain ⟨a, da, qa⟩ := PySem.W.os_pre_some hpre
  obtain ⟨ea, within⟩ := PySem.W.Codec.encAll_of_decAll r.args args a da
  subst ea
  obtain ⟨K, fd, KX, bnd, ok⟩ := F w mg fa _ Y G.T.g hmg
  have go := spec_call (R := []) (cl := classAt s0.heap) (d0 := r.ret.enc (PySem.W.Codec.app r.args r.f a)) KX G.T.g G.T.b G.T.builtins
    G.T.nolimit hgens hwell (pl_encAll _ _) (layable_weight hlay) room (fun base _ _ => ok base) bnd
    (by rw [encAll_len]; exact len) (fun H xs _ hx => hsp K H xs a within hx) (fun _ _ _ z => z)
  refine PySem.W.enter_call (codeAny_mono go fun r' s' hq => ?_)
  obtain ⟨u, as', rfl, k1, k2, k3, k4⟩ := hq
  refine ⟨.inl ⟨u, _, as', rfl, fun _ => rfl, k1, ?_, fun z => ?_⟩, k2, k3, k4⟩
  · exact (PySem.W.OpenSpec.post_iff well within _ _).mpr rfl
  · exact Bool.noConfusion (show false = true from z)

/-! what is looked at, by names -/
def d_has : He.DefD := ⟨("has", none), "has", "has", defArgs s_has, defBody s_has, defScope s_has, [], []⟩
def d_on_overflow : He.DefD := ⟨("on_overflow", none), "on_overflow", "on_overflow", defArgs s_on_overflow, defBody s_on_overflow, defScope s_on_overflow, [], []⟩
def d_on_carry : He.DefD := ⟨("on_carry", none), "on_carry", "on_carry", defArgs s_on_carry, defBody s_on_carry, defScope s_on_carry, [], []⟩
def d_on_zero : He.DefD := ⟨("on_zero", none), "on_zero", "on_zero", defArgs s_on_zero, defBody s_on_zero, defScope s_on_zero, [], []⟩
def d_on_carry_or_zero : He.DefD := ⟨("on_carry_or_zero", none), "on_carry_or_zero", "on_carry_or_zero", defArgs s_on_carry_or_zero, defBody s_on_carry_or_zero, defScope s_on_carry_or_zero, [], []⟩
def d_on_sign : He.DefD := ⟨("on_sign", none), "on_sign", "on_sign", defArgs s_on_sign, defBody s_on_sign, defScope s_on_sign, [], []⟩
def d_on_parity : He.DefD := ⟨("on_parity", none), "on_parity", "on_parity", defArgs s_on_parity, defBody s_on_parity, defScope s_on_parity, [], []⟩
def d_on_sign_not_overflow : He.DefD := ⟨("on_sign_not_overflow", none), "on_sign_not_overflow", "on_sign_not_overflow", defArgs s_on_sign_not_overflow, defBody s_on_sign_not_overflow, defScope s_on_sign_not_overflow, [], []⟩
def d_on_zero_or_sign_not_overflow : He.DefD := ⟨("on_zero_or_sign_not_overflow", none), "on_zero_or_sign_not_overflow", "on_zero_or_sign_not_overflow", defArgs s_on_zero_or_sign_not_overflow, defBody s_on_zero_or_sign_not_overflow, defScope s_on_zero_or_sign_not_overflow, [], []⟩
def d_is_met : He.DefD := ⟨("is_met", none), "is_met", "is_met", defArgs s_is_met, defBody s_is_met, defScope s_is_met, [], []⟩
def d_when : He.DefD := ⟨("when", none), "when", "when", defArgs s_when, defBody s_when, defScope s_when, [], []⟩
def fn0 : List He.DefD := [d_has, d_on_overflow, d_on_carry, d_on_zero, d_on_carry_or_zero, d_on_sign, d_on_parity, d_on_sign_not_overflow, d_on_zero_or_sign_not_overflow, d_is_met, d_when]
def gl0 : List He.Fa := [.glo "has", .glo "on_overflow", .glo "on_carry", .glo "on_zero", .glo "on_carry_or_zero", .glo "on_sign", .glo "on_parity", .glo "on_sign_not_overflow", .glo "on_zero_or_sign_not_overflow", .glo "is_met", .glo "when"]
def glx : List He.Fa := [.glo "EVEN_CONDITIONS", .int "CARRY" 1, .int "PARITY" 4, .int "ZERO" 64, .int "SIGN" 128, .int "OVERFLOW" 2048]
def fns : List He.DefD := fn0
def fas : List He.Fa := gl0 ++ (glx)
def tb_EVEN_CONDITIONS : Str × List (Int × Str) := ("EVEN_CONDITIONS", [(0, "on_overflow"), (2, "on_carry"), (4, "on_zero"), (6, "on_carry_or_zero"), (8, "on_sign"), (10, "on_parity"), (12, "on_sign_not_overflow"), (14, "on_zero_or_sign_not_overflow")])
def tbs : List (Str × List (Int × Str)) := [tb_EVEN_CONDITIONS]
def lo0 : List Str := ["has", "on_overflow", "on_carry", "on_zero", "on_carry_or_zero", "on_sign", "on_parity", "on_sign_not_overflow", "on_zero_or_sign_not_overflow", "is_met", "CARRY", "PARITY"]
def lo1 : List Str := ["ZERO", "SIGN", "OVERFLOW", "EVEN_CONDITIONS"]
def los : List Str := lo0 ++ (lo1)
abbrev hk : PySem.W.Hook := look 2 fas fns tbs
def ob (s : PySem.W.SharedT) : Seen := seenG 2 fas fns tbs (HandSHeadRun.getT s)
theorem ob_eq (s : PySem.W.SharedT) : ob s = hk.obs s.abs := by
  have e : HandSHeadRun.getT s = s.abs.heap.get? := funext (HandSHeadRun.getT_eq s)
  show seenG 2 fas fns tbs (HandSHeadRun.getT s) = _
  rw [e]
  rfl
abbrev R : PySem.W.OpenSpec := PySem.Challenge.rw_flagwork_s02_when
abbrev RunP (w : World) : Prop := HandSHeadRun.RunEqS R (PySem.W.view R.prog [18]) hk ob 20000 los w
theorem run_f (w : World) : RunP (w.withFollow "special-get-raises" false) := by
  intro os
  kernel_rfl
theorem run_t (w : World) : RunP (w.withFollow "special-get-raises" true) := by
  intro os
  kernel_rfl
theorem run (w : World) : RunP w := PySem.W.byRow2 "special-get-raises" (P := RunP) run_f run_t w

theorem facts {P : Program} {w : World} {K : PySem.W.Frag} {h : Heap} {mg : Str → Option Value} {f : Addr} (X : K.In h) (G : h.Ns mainGlobals mg) (hf : mg ("when" : Str) = some (.ref f)) (c : seen fas fns tbs K = (He.valD fns, true)) :
    ∃ fd : FuncData, (∀ (s : Shared) (us : List Value), us.length = 2 → BindsTo s fd ⟨us, []⟩ ((["flags", "cond"] : List Str).zip us)) ∧ ∀ base : Heap, FnOk P w K mg base CX0 5 f fd ["flags", "cond"] sp_when := by
  have cd : He.SaysD fas fns K := congrArg (fun z : Seen => z.1) c
  have ct : tbs.all (tabB K) = true := congrArg (fun z : Seen => z.2) c
  obtain ⟨fd_has, F_has⟩ := cd.def_ 0 (d := d_has) rfl
  have g_has : mg "has" = some (.ref (He.ga K "has")) := He.glo_ok X G (cd.fact 0 (f := .glo "has") rfl)
  obtain ⟨fd_on_overflow, F_on_overflow⟩ := cd.def_ 1 (d := d_on_overflow) rfl
  have g_on_overflow : mg "on_overflow" = some (.ref (He.ga K "on_overflow")) := He.glo_ok X G (cd.fact 1 (f := .glo "on_overflow") rfl)
  obtain ⟨fd_on_carry, F_on_carry⟩ := cd.def_ 2 (d := d_on_carry) rfl
  have g_on_carry : mg "on_carry" = some (.ref (He.ga K "on_carry")) := He.glo_ok X G (cd.fact 2 (f := .glo "on_carry") rfl)
  obtain ⟨fd_on_zero, F_on_zero⟩ := cd.def_ 3 (d := d_on_zero) rfl
  have g_on_zero : mg "on_zero" = some (.ref (He.ga K "on_zero")) := He.glo_ok X G (cd.fact 3 (f := .glo "on_zero") rfl)
  obtain ⟨fd_on_carry_or_zero, F_on_carry_or_zero⟩ := cd.def_ 4 (d := d_on_carry_or_zero) rfl
  have g_on_carry_or_zero : mg "on_carry_or_zero" = some (.ref (He.ga K "on_carry_or_zero")) := He.glo_ok X G (cd.fact 4 (f := .glo "on_carry_or_zero") rfl)
  obtain ⟨fd_on_sign, F_on_sign⟩ := cd.def_ 5 (d := d_on_sign) rfl
  have g_on_sign : mg "on_sign" = some (.ref (He.ga K "on_sign")) := He.glo_ok X G (cd.fact 5 (f := .glo "on_sign") rfl)
  obtain ⟨fd_on_parity, F_on_parity⟩ := cd.def_ 6 (d := d_on_parity) rfl
  have g_on_parity : mg "on_parity" = some (.ref (He.ga K "on_parity")) := He.glo_ok X G (cd.fact 6 (f := .glo "on_parity") rfl)
  obtain ⟨fd_on_sign_not_overflow, F_on_sign_not_overflow⟩ := cd.def_ 7 (d := d_on_sign_not_overflow) rfl
  have g_on_sign_not_overflow : mg "on_sign_not_overflow" = some (.ref (He.ga K "on_sign_not_overflow")) := He.glo_ok X G (cd.fact 7 (f := .glo "on_sign_not_overflow") rfl)
  obtain ⟨fd_on_zero_or_sign_not_overflow, F_on_zero_or_sign_not_overflow⟩ := cd.def_ 8 (d := d_on_zero_or_sign_not_overflow) rfl
  have g_on_zero_or_sign_not_overflow : mg "on_zero_or_sign_not_overflow" = some (.ref (He.ga K "on_zero_or_sign_not_overflow")) := He.glo_ok X G (cd.fact 8 (f := .glo "on_zero_or_sign_not_overflow") rfl)
  obtain ⟨fd_is_met, F_is_met⟩ := cd.def_ 9 (d := d_is_met) rfl
  have g_is_met : mg "is_met" = some (.ref (He.ga K "is_met")) := He.glo_ok X G (cd.fact 9 (f := .glo "is_met") rfl)
  obtain ⟨fd_when, F_when⟩ := cd.def_ 10 (d := d_when) rfl
  have g_when : mg "when" = some (.ref (He.ga K "when")) := He.glo_ok X G (cd.fact 10 (f := .glo "when") rfl)
  have g_EVEN_CONDITIONS : mg "EVEN_CONDITIONS" = some (.ref (He.ga K "EVEN_CONDITIONS")) := He.glo_ok X G (cd.fact 11 (f := .glo "EVEN_CONDITIONS") rfl)
  have c_CARRY : Cst mg "CARRY" 1 := He.int_ok X G (cd.fact 12 (f := .int "CARRY" 1) rfl)
  have c_PARITY : Cst mg "PARITY" 4 := He.int_ok X G (cd.fact 13 (f := .int "PARITY" 4) rfl)
  have c_ZERO : Cst mg "ZERO" 64 := He.int_ok X G (cd.fact 14 (f := .int "ZERO" 64) rfl)
  have c_SIGN : Cst mg "SIGN" 128 := He.int_ok X G (cd.fact 15 (f := .int "SIGN" 128) rfl)
  have c_OVERFLOW : Cst mg "OVERFLOW" 2048 := He.int_ok X G (cd.fact 16 (f := .int "OVERFLOW" 2048) rfl)
  have t_EVEN_CONDITIONS : Tab mg K "EVEN_CONDITIONS" [(0, "on_overflow"), (2, "on_carry"), (4, "on_zero"), (6, "on_carry_or_zero"), (8, "on_sign"), (10, "on_parity"), (12, "on_sign_not_overflow"), (14, "on_zero_or_sign_not_overflow")] := by
    refine tab_ok (t := tb_EVEN_CONDITIONS) (List.all_eq_true.mp ct _ (by unfold tbs; simp)) g_EVEN_CONDITIONS fun q hq => ?_
    simp only [tb_EVEN_CONDITIONS, List.mem_cons, List.not_mem_nil, or_false] at hq
    rcases hq with rfl | rfl | rfl | rfl | rfl | rfl | rfl | rfl
    · exact g_on_overflow
    · exact g_on_carry
    · exact g_on_zero
    · exact g_on_carry_or_zero
    · exact g_on_sign
    · exact g_on_parity
    · exact g_on_sign_not_overflow
    · exact g_on_zero_or_sign_not_overflow
  have ef := hf.symm.trans g_when
  cases ef
  refine ⟨fd_when, fun s us hu => FunD.bindsA (ps := ["flags", "cond"]) F_when (fun _ _ _ _ _ _ us hl => match us, hl with | [_, _], _ => rfl) s us hu, fun base => ?_⟩
  have h_has : Has P w K mg base "has" 1 sp_has := has_has F_has g_has 
  have h_on_overflow : Has P w K mg base "on_overflow" 2 sp_on_overflow := has_on_overflow F_on_overflow g_on_overflow h_has c_OVERFLOW
  have h_on_carry : Has P w K mg base "on_carry" 2 sp_on_carry := has_on_carry F_on_carry g_on_carry h_has c_CARRY
  have h_on_zero : Has P w K mg base "on_zero" 2 sp_on_zero := has_on_zero F_on_zero g_on_zero h_has c_ZERO
  have h_on_carry_or_zero : Has P w K mg base "on_carry_or_zero" 2 sp_on_carry_or_zero := has_on_carry_or_zero F_on_carry_or_zero g_on_carry_or_zero h_has c_CARRY c_ZERO
  have h_on_sign : Has P w K mg base "on_sign" 2 sp_on_sign := has_on_sign F_on_sign g_on_sign h_has c_SIGN
  have h_on_parity : Has P w K mg base "on_parity" 2 sp_on_parity := has_on_parity F_on_parity g_on_parity h_has c_PARITY
  have h_on_sign_not_overflow : Has P w K mg base "on_sign_not_overflow" 2 sp_on_sign_not_overflow := has_on_sign_not_overflow F_on_sign_not_overflow g_on_sign_not_overflow h_has c_SIGN c_OVERFLOW
  have h_on_zero_or_sign_not_overflow : Has P w K mg base "on_zero_or_sign_not_overflow" 3 sp_on_zero_or_sign_not_overflow := has_on_zero_or_sign_not_overflow F_on_zero_or_sign_not_overflow g_on_zero_or_sign_not_overflow h_has h_on_sign_not_overflow c_ZERO
  have h_is_met : Has P w K mg base "is_met" 4 sp_is_met := has_is_met F_is_met g_is_met h_on_overflow h_on_carry h_on_zero h_on_carry_or_zero h_on_sign h_on_parity h_on_sign_not_overflow h_on_zero_or_sign_not_overflow t_EVEN_CONDITIONS
  exact ok_when F_when h_is_met
end My
open PySem PySem.W PySem.Calls PyProof.Rows
theorem PySem.Challenge.cw_flagwork_s02_when_holds : PySem.Challenge.rw_flagwork_s02_when.Holds := by
  w_on
  refine HandSHeadRun.head_spec (r := PySem.Challenge.rw_flagwork_s02_when) (q := view PySem.Challenge.rw_flagwork_s02_when.prog [18]) (H := My.hk) (ob := My.ob) (M := 20000) (loose := My.los) (d := HandSHeadRun.topDef PySem.Challenge.rw_flagwork_s02_when.prog 18) (kwd := []) My.ob_eq
    (by kernel_rfl) (fun s => by kernel_rfl) My.run (by kernel_rfl) (by kernel_rfl) (by kernel_rfl) os_shapes (by decide +kernel) (by decide +kernel) ⟨rfl, rfl, rfl, rfl, rfl, by decide +kernel⟩ ?hw ?hc
  case hw => exact ⟨[.int 0, .int 0], by decide +kernel, by decide +kernel⟩
  case hc =>
    refine My.walk_here (r := PySem.Challenge.rw_flagwork_s02_when) (k := 5) (ps := ["flags", "cond"]) (sp := My.sp_when) (by decide +kernel) rfl ⟨rfl, by decide, by decide⟩ ?F ?S
    case F =>
      intro w mg fa h Y G hmg0
      obtain ⟨K, KX, c⟩ := Y
      have hmg : mg ("when" : PySem.Str) = some (.ref fa) := by
        have e : (HandSHeadRun.topDef PySem.Challenge.rw_flagwork_s02_when.prog 18).name = ("when" : PySem.Str) := by kernel_rfl
        rw [← e]
        exact hmg0
      obtain ⟨fd, hb, hF⟩ := My.facts (P := PySem.Challenge.rw_flagwork_s02_when.prog) (w := w) KX G hmg c
      exact ⟨K, fd, KX, hb, hF⟩
    case S =>
      intro K H xs q1 hwi hx
      obtain ⟨flags1, cond1, u⟩ := q1
      cases hx with | cons h1 hx => cases hx with | cons h2 hx =>
        cases hx
        cases h1
        cases h2
        have hq : (Codec.inInt 0 4294967295 flags1 && (Codec.inInt 0 255 cond1 && true)) = true := hwi
        simp only [Codec.inInt, Bool.and_eq_true, decide_eq_true_eq] at hq
        refine ⟨flags1, cond1, rfl, by omega, fun p H2 _ _ hp => ?_⟩
        rw [My.mirror_is (by omega) (by omega)] at hp
        exact .lst (L2.SqL.of hp) (L2.dw_ints _)

