import PyProof.Rows.All
import Wide.All
import OpenK.AllK
import Wide.FinOn
import HandS.Base
import HandS.Call
import HandS.List
import HandS.Comp
import HandS.Ends
import HandS.Words
import HandS.Defaults
import HandS.Evl
import HandS.Wide
import HandS.Iter
import HandS.WideBits
import HandS.Spec
import HandS.CallLocal
import KE.KBits
import KE.BitLaws
import KE.KStateDown
import HandS.Head0
import HandS.Head1
import HandS.Head2
import HandS.Head3
import HandS.Head4
import HandS.HeadHook1
import HandS.HeadHook2
import KE.OsGo
import KE.OsHead
import PySem.Challenge.RW_flagwork_s01_do
set_option Elab.async false
set_option linter.all false
set_option maxRecDepth 100000
set_option maxHeartbeats 8000000
/-! ### One judgement for both: that the text has a reading, and what the reading comes to -/
namespace My
open PySem PyProof.Rows L2 Evl

def CE (X : Cx) (e : Expr) (σ : L2.St) (H : Hp) (v : V) : Prop := ∃ t, PE X e t ∧ Ev t σ H v
def CT (X : Cx) (e : Expr) (σ : L2.St) (H : Hp) (b : Bool) : Prop := ∃ t, PT X e t ∧ EvT t σ H b
def CW (X : Cx) (e : Expr) (σ : L2.St) (H : Hp) (b : Bool) : Prop := ∃ t, PW X e t ∧ EvT t σ H b
def CA (X : Cx) (es : List Expr) (σ : L2.St) (H : Hp) (vs : List V) : Prop := ∃ t, PA X es t ∧ EvA t σ H vs
def CL (X : Cx) (e : Expr) (σ : L2.St) (H : Hp) (xs : List V) : Prop := ∃ t, PE X e t ∧ EvL t σ H xs
def CU (X : Cx) (e : Expr) (σ : L2.St) (H : Hp) (xs : List V) : Prop := ∃ t, PE X e t ∧ EvU t σ H xs
/-- a block that ends by a return of what Q wants -/
def CR (X : Cx) (b : List Stmt) (σ : L2.St) (H : Hp) (Q : VK) : Prop := ∃ t, PSs X b t ∧ ∀ H1, Ex H H1 → ∀ D : Ends, D.rt = Q → t D σ H1
/-- a def of the module as its callers see it -/
def Has (P : Program) (w : World) (K : PySem.W.Frag) (mg : Str → Option Value) (base : Heap) (x : Str) (k : Nat) (sp : Sp) : Prop :=
  ∃ (f : Addr) (fd : FuncData) (ps : List Str), FnOk P w K mg base CX0 k f fd ps sp ∧ mg x = some (.ref f) ∧ PySem.W.keepIn K (.ref f) = true ∧ Binds K fd ps []
/-- a constant of the module -/
def Cst (mg : Str → Option Value) (x : Str) (i : Int) : Prop := ∃ t, mg x = some (.int i t)
def RetU (xs : List V) (H : Hp) (Q : VK) : Prop := ∀ p H2, H p = none → Ex H H2 → H2 p = some (.tup xs) → Q (.ref p) H2
def SpU (sp : Sp) (vs : List V) (H : Hp) (xs : List V) : Prop := ∀ H1, Ex H H1 → ∀ Q : VK, RetU xs H1 Q → ∀ E : XK, sp vs H1 Q E

section
variable {X : Cx} {σ : L2.St} {H : Hp} {a b c e : Expr} {pos : Pos} {i j : Int} {u v x y z : V} {es : List Expr} {vs : List V} {p q r : Bool} {Q : VK}

theorem ce_v {x : Str} (n : Nat) (h : PE X (.Name x pos) (tVar n)) (hv : σ[n]? = some (some v)) : CE X (.Name x pos) σ H v := ⟨_, h, ev_var hv⟩
theorem ce_i {n : Nat} : CE X (.Constant (.int i) n pos) σ H (.int i) := ⟨_, pe_int, ev_c⟩
theorem ce_b {n : Nat} : CE X (.Constant (.bool p) n pos) σ H (.bl p) := ⟨_, pe_bl, ev_c⟩
theorem ce_g {x : Str} (h : Cst X.mg x i) (hg : Gl X x) (hd : (x == ("__debug__" : Str)) = false) : CE X (.Name x pos) σ H (.int i) := by
  obtain ⟨t, ht⟩ := h
  exact ⟨_, pe_glob (v := .int i) hg ht ⟨t, rfl⟩ hd, ev_c⟩
theorem ce_op {op : Operator} {r : R2} (ho : OpR X (binaryOp op) r) (ha : CE X a σ H x) (hb : CE X b σ H y) (hr : RV r x y H z) : CE X (.BinOp a op b pos) σ H z := by
  obtain ⟨ta, pa, ea⟩ := ha
  obtain ⟨tb, pb, eb⟩ := hb
  exact ⟨_, pe_op ho pa pb, ev_op ea eb hr⟩
theorem ce_add (ha : CE X a σ H (.int i)) (hb : CE X b σ H (.int j)) : CE X (.BinOp a .Add b pos) σ H (.int (i + j)) := ce_op op_add ha hb rv_I0
theorem ce_sub (ha : CE X a σ H (.int i)) (hb : CE X b σ H (.int j)) : CE X (.BinOp a .Sub b pos) σ H (.int (i - j)) := ce_op op_sub ha hb rv_I0
theorem ce_and (ha : CE X a σ H (.int i)) (hb : CE X b σ H (.int j)) : CE X (.BinOp a .BitAnd b pos) σ H (.int (Builtin.bitAnd i j)) := ce_op op_and ha hb rv_I0
theorem ce_or (ha : CE X a σ H (.int i)) (hb : CE X b σ H (.int j)) : CE X (.BinOp a .BitOr b pos) σ H (.int (Builtin.bitOr i j)) := ce_op op_or ha hb rv_I0
theorem ce_xor (ha : CE X a σ H (.int i)) (hb : CE X b σ H (.int j)) : CE X (.BinOp a .BitXor b pos) σ H (.int (Builtin.bitXor i j)) := ce_op op_xor ha hb rv_I0
theorem ce_mul (ha : CE X a σ H (.int i)) (hb : CE X b σ H (.int j)) (hc : CMulW i j) : CE X (.BinOp a .Mult b pos) σ H (.int (i * j)) := ce_op op_mulW ha hb (rv_I hc)
theorem ce_div (ha : CE X a σ H (.int i)) (hb : CE X b σ H (.int j)) (hc : CDivW i j) : CE X (.BinOp a .FloorDiv b pos) σ H (.int (i / j)) := ce_op op_fdivW ha hb (rv_I hc)
theorem ce_mod (ha : CE X a σ H (.int i)) (hb : CE X b σ H (.int j)) (hc : 0 < j) : CE X (.BinOp a .Mod b pos) σ H (.int (i % j)) := ce_op op_mod ha hb (rv_I hc)
theorem ce_shl (ha : CE X a σ H (.int i)) (hb : CE X b σ H (.int j)) (hc : CShl i j) : CE X (.BinOp a .LShift b pos) σ H (.int (i * 2 ^ j.toNat)) := ce_op op_shlW ha hb (rv_I hc)
theorem ce_shr (ha : CE X a σ H (.int i)) (hb : CE X b σ H (.int j)) (hc : 0 ≤ j) : CE X (.BinOp a .RShift b pos) σ H (.int (i / 2 ^ j.toNat)) := ce_op op_shr ha hb (rv_I hc)
theorem ce_neg (ha : CE X a σ H (.int i)) : CE X (.UnaryOp .USub a pos) σ H (.int (-i)) := by
  obtain ⟨ta, pa, ea⟩ := ha
  exact ⟨_, pe_un un_neg pa, ev_un ea ru_neg⟩
theorem ce_inv (ha : CE X a σ H (.int i)) : CE X (.UnaryOp .Invert a pos) σ H (.int (Builtin.bitNot i)) := by
  obtain ⟨ta, pa, ea⟩ := ha
  exact ⟨_, pe_un un_inv pa, ev_un ea fun H1 _ _ q => ⟨i, rfl, q H1 (Ex.refl H1)⟩⟩
theorem ce_not (ha : CE X a σ H (.bl p)) : CE X (.UnaryOp .Not a pos) σ H (.bl (!p)) := by
  obtain ⟨ta, pa, ea⟩ := ha
  exact ⟨_, pe_not pa, ev_notV ea⟩
/-! comparisons -/
theorem rv_ieq : RV rEq (.int i) (.int j) H (.bl (decide (i = j))) := fun H1 e Q q => by
  refine rv_eq (H := H) rfl H1 e Q fun H2 e2 => ?_
  have h : decide (V.int i = V.int j) = decide (i = j) := by simp
  rw [h]
  exact q H2 e2
theorem rv_ine : RV rNe (.int i) (.int j) H (.bl (!decide (i = j))) := fun H1 e Q q => by
  refine rv_ne (H := H) rfl H1 e Q fun H2 e2 => ?_
  have h : decide (V.int i = V.int j) = decide (i = j) := by simp
  rw [h]
  exact q H2 e2
theorem rv_bne : RV rNe (.bl p) (.bl q) H (.bl (p != q)) := fun H1 e Q k => by
  refine rv_ne (H := H) rfl H1 e Q fun H2 e2 => ?_
  have h : (!decide (V.bl p = V.bl q)) = (p != q) := by
    cases p <;> cases q <;> decide
  rw [h]
  exact k H2 e2
theorem ce_cmp {op : CmpOp} {r : R2} (ho : OpR X (compareOp op) r) (ha : CE X a σ H x) (hb : CE X b σ H y) (hr : RV r x y H z) (hm : behindInMarks op b = false) : CE X (.Compare a [op] [b] pos) σ H z := by
  obtain ⟨ta, pa, ea⟩ := ha
  obtain ⟨tb, pb, eb⟩ := hb
  exact ⟨_, pe_cmpR ho pa pb hm, ev_op ea eb hr⟩
theorem ct_cmp {op : CmpOp} {r : R2} (ho : OpR X (compareOp op) r) (ha : CE X a σ H x) (hb : CE X b σ H y) (hr : RV r x y H (.bl p)) (hm : behindInMarks op b = false) : CT X (.Compare a [op] [b] pos) σ H p := by
  obtain ⟨ta, pa, ea⟩ := ha
  obtain ⟨tb, pb, eb⟩ := hb
  exact ⟨_, pt_cmpR ho pa pb hm, et_test (ev_op ea eb hr)⟩
theorem ev_chain {r r' : R2} {ta tb tc : TE} (ea : Ev ta σ H x) (eb : Ev tb σ H y) (ec : Ev tc σ H z) (hr : RV r x y H (.bl p)) (hr' : RV r' y z H (.bl q)) : Ev (tChain r r' ta tb tc) σ H (.bl (p && q)) := by
  intro H1 e Q k
  refine ea H1 e _ fun H2 e2 => eb H2 (e.trans e2) _ fun H3 e3 => hr H3 ((e.trans e2).trans e3) _ fun H4 e4 => ⟨p, rfl, ?_⟩
  cases p with
  | true =>
    show tc σ H4 _
    exact ec H4 (((e.trans e2).trans e3).trans e4) _ fun H5 e5 => hr' H5 ((((e.trans e2).trans e3).trans e4).trans e5) Q fun H6 e6 => k H6 ((((e2.trans e3).trans e4).trans e5).trans e6)
  | false =>
    show Q (.bl false) H4
    exact k H4 ((e2.trans e3).trans e4)
theorem ce_chain {op op' : CmpOp} {r r' : R2} (ho : OpR X (compareOp op) r) (ho' : OpR X (compareOp op') r') (ha : CE X a σ H x) (hb : CE X b σ H y) (hc : CE X c σ H z) (hr : RV r x y H (.bl p)) (hr' : RV r' y z H (.bl q))
    (hm : lastMarks [op, op'] [b, c] = false := by with_unfolding_all rfl) : CE X (.Compare a [op, op'] [b, c] pos) σ H (.bl (p && q)) := by
  obtain ⟨ta, pa, ea⟩ := ha
  obtain ⟨tb, pb, eb⟩ := hb
  obtain ⟨tc, pc, ec⟩ := hc
  exact ⟨_, pe_chain ho ho' pa pb pc hm, ev_chain ea eb ec hr hr'⟩
theorem ct_chain {op op' : CmpOp} {r r' : R2} (ho : OpR X (compareOp op) r) (ho' : OpR X (compareOp op') r') (ha : CE X a σ H x) (hb : CE X b σ H y) (hc : CE X c σ H z) (hr : RV r x y H (.bl p)) (hr' : RV r' y z H (.bl q))
    (hm : lastMarks [op, op'] [b, c] = false := by with_unfolding_all rfl) : CT X (.Compare a [op, op'] [b, c] pos) σ H (p && q) := by
  obtain ⟨ta, pa, ea⟩ := ha
  obtain ⟨tb, pb, eb⟩ := hb
  obtain ⟨tc, pc, ec⟩ := hc
  exact ⟨_, pt_chain ho ho' pa pb pc hm, et_test (ev_chain ea eb ec hr hr')⟩
/-! tests, and, or, if-else -/
theorem ct_val (h : CE X a σ H (.bl p)) (he : ∀ whole, isTrue a X.env whole = (do let v ← whole; standAt a.pos; holding [v] (truthy v)) := by intro _; rfl) : CT X a σ H p := by
  obtain ⟨ta, pa, ea⟩ := h
  exact ⟨_, pt_val pa he, et_B ea⟩
theorem ct_not (h : CT X a σ H p) : CT X (.UnaryOp .Not a pos) σ H (!p) := by
  obtain ⟨ta, pa, ea⟩ := h
  exact ⟨_, pt_not pa, et_not ea⟩
theorem ct_or (ha : CT X a σ H p) (hb : CT X b σ H q) : CT X (.BoolOp .Or [a, b] pos) σ H (p || q) := by
  obtain ⟨ta, pa, ea⟩ := ha
  obtain ⟨tb, pb, eb⟩ := hb
  exact ⟨_, (pw_or pa (pw_or1 pb)).pt, et_or ea fun _ => eb⟩
theorem ct_and (ha : CT X a σ H p) (hb : CT X b σ H q) : CT X (.BoolOp .And [a, b] pos) σ H (p && q) := by
  obtain ⟨ta, pa, ea⟩ := ha
  obtain ⟨tb, pb, eb⟩ := hb
  exact ⟨_, (pw_and pa (pw_and1 pb)).pt, et_and ea fun _ => eb⟩
theorem ce_bor (ha : CE X a σ H (.bl p)) (hb : CE X b σ H (.bl q)) : CE X (.BoolOp .Or [a, b] pos) σ H (.bl (p || q)) := by
  obtain ⟨ta, pa, ea⟩ := ha
  obtain ⟨tb, pb, eb⟩ := hb
  exact ⟨_, pe_or pa (pe_one pb), ev_orV ea fun _ => eb⟩
theorem ce_band (ha : CE X a σ H (.bl p)) (hb : CE X b σ H (.bl q)) : CE X (.BoolOp .And [a, b] pos) σ H (.bl (p && q)) := by
  obtain ⟨ta, pa, ea⟩ := ha
  obtain ⟨tb, pb, eb⟩ := hb
  exact ⟨_, pe_and pa (pe_one pb), ev_andV ea fun _ => eb⟩
theorem ce_if (hc : CT X c σ H p) (ha : CE X a σ H (.int i)) (hb : CE X b σ H (.int j)) : CE X (.IfExp c a b pos) σ H (.int (if p = true then i else j)) := by
  obtain ⟨tc, pc, ec⟩ := hc
  obtain ⟨ta, pa, ea⟩ := ha
  obtain ⟨tb, pb, eb⟩ := hb
  refine ⟨_, pe_ifExp pc pa pb, ev_if ec (fun h => ?_) (fun h => ?_)⟩
  · rw [if_pos h]
    exact ea
  · rw [if_neg (by rw [h]; exact Bool.false_ne_true)]
    exact eb
/-! arguments, calls -/
theorem ca_0 : CA X [] σ H [] := ⟨_, pa_nil, ea_nil⟩
theorem ca_1 (h : CE X e σ H v) (hr : CA X es σ H vs) (hs : starEach (e :: es) X.env = (false, eval e X.env) :: starEach es X.env := by rfl) : CA X (e :: es) σ H (v :: vs) := by
  obtain ⟨t, p, k⟩ := h
  obtain ⟨t2, p2, k2⟩ := hr
  exact ⟨_, pa_cons p p2 hs, ea_cons k k2⟩
theorem ce_call {k : Nat} {x : Str} {sp : Sp} {xp : Pos} (F : Has X.prog X.w X.K X.mg X.base x k sp) (hr : Room k X.A) (hg : Gl X x) (ha : CA X (e :: es) σ H vs) (hs : SpV sp vs H z) (hdb : (x == ("__debug__" : Str)) = false)
    (he : starEach (e :: es) X.env = (false, eval e X.env) :: starEach es X.env := by rfl) (hpl : (backTo pos (starEach es X.env)).any (·.1) = false := by rfl) : CE X (.Call (.Name x xp) (e :: es) [] pos) σ H z := by
  obtain ⟨f, fd, ps, G, gm, kp, bd⟩ := F
  obtain ⟨t, pa, ea⟩ := ha
  refine ⟨_, pe_call G hr hg gm kp bd .nil pass0 pa hdb he hpl, ev_call ea ?_⟩
  rw [List.append_nil]
  exact hs
theorem cl_call {k : Nat} {x : Str} {sp : Sp} {xp : Pos} {xs : List V} (F : Has X.prog X.w X.K X.mg X.base x k sp) (hr : Room k X.A) (hg : Gl X x) (ha : CA X (e :: es) σ H vs) (hs : SpL sp vs H xs) (hdb : (x == ("__debug__" : Str)) = false)
    (he : starEach (e :: es) X.env = (false, eval e X.env) :: starEach es X.env := by rfl) (hpl : (backTo pos (starEach es X.env)).any (·.1) = false := by rfl) : CL X (.Call (.Name x xp) (e :: es) [] pos) σ H xs := by
  obtain ⟨f, fd, ps, G, gm, kp, bd⟩ := F
  obtain ⟨t, pa, ea⟩ := ha
  refine ⟨_, pe_call G hr hg gm kp bd .nil pass0 pa hdb he hpl, el_call ea ?_⟩
  rw [List.append_nil]
  exact hs
theorem cu_call {k : Nat} {x : Str} {sp : Sp} {xp : Pos} {xs : List V} (F : Has X.prog X.w X.K X.mg X.base x k sp) (hr : Room k X.A) (hg : Gl X x) (ha : CA X (e :: es) σ H vs) (hs : SpU sp vs H xs) (hdb : (x == ("__debug__" : Str)) = false)
    (he : starEach (e :: es) X.env = (false, eval e X.env) :: starEach es X.env := by rfl) (hpl : (backTo pos (starEach es X.env)).any (·.1) = false := by rfl) : CU X (.Call (.Name x xp) (e :: es) [] pos) σ H xs := by
  obtain ⟨f, fd, ps, G, gm, kp, bd⟩ := F
  obtain ⟨t, pa, ea⟩ := ha
  refine ⟨_, pe_call G hr hg gm kp bd .nil pass0 pa hdb he hpl, fun H1 e1 Q q => ea H1 e1 _ fun H2 e2 => ?_⟩
  rw [List.append_nil]
  exact hs H2 (e1.trans e2) Q (fun p H3 hp e3 h3 => q p H3 (fresh_back e2 hp) (e2.trans e3) h3) _
theorem cl_lst (ha : CA X es σ H vs) (hl : vs.length ≤ 100000) : CL X (.List es pos) σ H vs := by
  obtain ⟨t, pa, ea⟩ := ha
  exact ⟨_, pe_lst pa, el_lst ea hl⟩
theorem cu_tup {n : Nat} (ha : CA X es σ H vs) (hl : vs.length ≤ 100000) : CU X (.Tuple es n pos) σ H vs := by
  obtain ⟨t, pa, ea⟩ := ha
  exact ⟨_, pe_tup pa, eu_tup ea hl⟩
theorem ce_abs {ap : Pos} (hm : X.mg "abs" = none) (hg : Gl X "abs") (ha : CA X (e :: es) σ H [.int i])
    (he : starEach (e :: es) X.env = (false, eval e X.env) :: starEach es X.env := by rfl) (hpl : (backTo pos (starEach es X.env)).any (·.1) = false := by rfl) : CE X (.Call (.Name "abs" ap) (e :: es) [] pos) σ H (.int (if i < 0 then -i else i)) := by
  obtain ⟨t, pa, ea⟩ := ha
  exact ⟨_, pe_callB call_abs hg hm boot_abs pa (by decide) (by decide) he hpl, ev_cb ea fun H1 _ _ q => ⟨i, rfl, q H1 (Ex.refl H1)⟩⟩
theorem ce_bits {ap : Pos} (ha : CE X a σ H (.int i)) (hbase : attributeBase a "bit_length" X.env (eval a X.env) = eval a X.env := by rfl) (hline : (ap.endLine == pos.line) = true := by rfl) :
    CE X (.Call (.Attribute a "bit_length" ap) [] [] pos) σ H (.int (Builtin.Int.intBits i : Nat)) := by
  obtain ⟨t, pa, ea⟩ := ha
  exact ⟨_, pe_bits pa hbase hline, fun H1 e1 Q q => ea H1 e1 _ fun H2 e2 => ⟨i, rfl, q H2 e2⟩⟩
/-- x not in a new tuple -/
theorem ct_niU {xs : List V} (ha : CE X a σ H x) (hb : CU X b σ H xs) (hx : flatV x = true) (hf : xs.all flatV = true) (hm : behindInMarks .NotIn b = false := by rfl) : CT X (.Compare a [.NotIn] [b] pos) σ H (!inV x xs) := by
  obtain ⟨ta, pa, ea⟩ := ha
  obtain ⟨tb, pb, eb⟩ := hb
  exact ⟨_, pt_cmpR op_notIn_seq pa pb hm, et_test (ev_niU ea eb hx hf)⟩
/-! statements -/
variable {st : Stmt} {body rest : List Stmt}
theorem cr_set {x : Str} {n : Nat} {p1 p2 : Pos} (he : CE X e σ H v) (hps : ∀ t, PE X e t → PS X (.Assign [.Name x p1] e p2) (tAsg t (gName n)))
    (k : CR X rest (σ.set n (some v)) H Q) : CR X (.Assign [.Name x p1] e p2 :: rest) σ H Q := by
  obtain ⟨t, pt, et⟩ := he
  obtain ⟨u, pu, eu⟩ := k
  exact ⟨_, pss_cons (hps t pt) pu, fun H1 e1 D hD => q_asg (et.mono e1) fun H2 e2 => eu H2 (e1.trans e2) D hD⟩
theorem cr_ret (he : CE X e σ H v) (hq : RetV v H Q) : CR X [.Return (some e) pos] σ H Q := by
  obtain ⟨t, pt, et⟩ := he
  refine ⟨_, pss_one (ps_ret pt), fun H1 e1 D hD => s_ret (et.mono e1) fun H2 e2 => ?_⟩
  rw [hD]
  exact hq H2 (e1.trans e2)
theorem cr_retL {xs : List V} (he : CL X e σ H xs) (hq : RetL xs H Q) : CR X [.Return (some e) pos] σ H Q := by
  obtain ⟨t, pt, et⟩ := he
  refine ⟨_, pss_one (ps_ret pt), fun H1 e1 D hD => s_retL (et.mono e1) fun p H2 hp e2 h2 => ?_⟩
  rw [hD]
  exact hq p H2 (fresh_back e1 hp) (e1.trans e2) h2
theorem cr_retU {xs : List V} (he : CU X e σ H xs) (hq : RetU xs H Q) : CR X [.Return (some e) pos] σ H Q := by
  obtain ⟨t, pt, et⟩ := he
  refine ⟨_, pss_one (ps_ret pt), fun H1 e1 D hD => et H1 e1 _ fun p H2 hp e2 h2 => ?_⟩
  rw [hD]
  exact hq p H2 (fresh_back e1 hp) (e1.trans e2) h2
/-- an if that returns; whichever way isn't gone needs no reading -/
theorem cr_if {rest : List Stmt} (hc : CT X c σ H p) (h1 : p = true → CR X body σ H Q) (h2 : p = false → CR X rest σ H Q) : CR X (.If c body [] pos :: rest) σ H Q := by
  obtain ⟨tc, pc, ec⟩ := hc
  cases p with
  | true =>
    obtain ⟨t, pt, kt⟩ := h1 rfl
    refine ⟨_, pss_cons (ps_if pc pt pss_nil) pss_never, fun H1 e1 D hD => q_when (ec.mono e1) (fun _ H2 e2 => kt H2 (e1.trans e2) _ hD) fun z => Bool.noConfusion z⟩
  | false =>
    obtain ⟨t, pt, kt⟩ := h2 rfl
    refine ⟨_, pss_cons (ps_if pc pss_never pss_nil) pt, fun H1 e1 D hD => q_when (ec.mono e1) (fun z => Bool.noConfusion z) fun _ H2 e2 => kt H2 (e1.trans e2) _ hD⟩
/-- an if that gives a name another number -/
theorem cr_ifset {x : Str} {n : Nat} {p1 p2 : Pos} {rest : List Stmt} (hc : CT X c σ H p) (he : p = true → CE X e σ H (.int i)) (hold : σ.set n (some (.int j)) = σ) (hps : ∀ t, PE X e t → PS X (.Assign [.Name x p1] e p2) (tAsg t (gName n)))
    (k : CR X rest (σ.set n (some (.int (if p = true then i else j)))) H Q) : CR X (.If c [.Assign [.Name x p1] e p2] [] pos :: rest) σ H Q := by
  obtain ⟨tc, pc, ec⟩ := hc
  cases p with
  | true =>
    obtain ⟨t, pt, kt⟩ := he rfl
    obtain ⟨u, pu, ku⟩ := k
    rw [if_pos rfl] at ku
    refine ⟨_, pss_cons (ps_if pc (pss_one (hps t pt)) pss_nil) pu, fun H1 e1 D hD => q_when (ec.mono e1) (fun _ H2 e2 => s_asg (kt.mono (e1.trans e2)) fun H3 e3 => ku H3 ((e1.trans e2).trans e3) D hD) fun z => Bool.noConfusion z⟩
  | false =>
    obtain ⟨u, pu, ku⟩ := k
    rw [if_neg Bool.false_ne_true, hold] at ku
    refine ⟨_, pss_cons (ps_if pc pss_never pss_nil) pu, fun H1 e1 D hD => q_when (ec.mono e1) (fun z => Bool.noConfusion z) fun _ H2 e2 => ku H2 (e1.trans e2) D hD⟩
end
theorem cshl {i j : Int} (n : Nat) (h : i.natAbs < 2 ^ n) (h0 : 0 ≤ j) (h1 : j ≤ 1000) (hn : n ≤ 1000 := by decide) : CShl i j := by
  obtain ⟨m, rfl⟩ := Int.eq_ofNat_of_zero_le h0
  exact shl_ok h (by omega)
end My

namespace My
open PySem
def m_greatest (width : Int) : Int :=
  (((1 : Int) * 2 ^ (width).toNat) - (1 : Int))

def m_bit (number : Int) (place : Int) : Int :=
  (Builtin.bitAnd (number / 2 ^ (place).toNat) (1 : Int))

def m_signed (number : Int) (width : Int) : Int :=
  if (decide ((m_bit number (width - (1 : Int))) = (1 : Int))) = true then
    (number - ((1 : Int) * 2 ^ (width).toNat))
  else
    number

def m_fits_signed (number : Int) (width : Int) : Bool :=
  let half := ((1 : Int) * 2 ^ ((width - (1 : Int))).toNat)
  (decide ((-half) ≤ number) && decide (number < half))

def m_carry_of (flags : Int) : Int :=
  (Builtin.bitAnd flags (1 : Int))

def m_put (flags : Int) (mark : Int) (holds : Bool) : Int :=
  if holds = true then
    (Builtin.bitOr flags mark)
  else
    (Builtin.bitAnd flags (Builtin.bitNot mark))

def m_ones (number : Int) : Nat → Int
  | 0 => 0
  | i + 1 => m_ones number i + m_bit number (i : Int)
def m_is_even_parity (number : Int) : Bool := decide (m_ones number 8 % 2 = 0)

def m_show (flags : Int) (number : Int) (width : Int) : Int :=
  let after := (m_put flags (64 : Int) (decide (number = (0 : Int))))
  let after := (m_put after (128 : Int) (decide ((m_bit number (width - (1 : Int))) = (1 : Int))))
  (m_put after (4 : Int) (m_is_even_parity number))

def m_answer (lo : Int) (hi : Int) (flags : Int) : List Int :=
  [(0 : Int), lo, hi, flags]

def m_is_low_digit_off (a : Int) (flags : Int) : Bool :=
  ((decide ((9 : Int) < (a % (16 : Int)))) || ((!decide ((Builtin.bitAnd flags (16 : Int)) = (0 : Int)))))

def m_is_high_digit_off (a : Int) (flags : Int) : Bool :=
  ((decide ((153 : Int) < a)) || (decide ((m_carry_of flags) = (1 : Int))))

def m_amount_off (low : Bool) (high : Bool) : Int :=
  ((if low = true then (6 : Int) else (0 : Int)) + (if high = true then (96 : Int) else (0 : Int)))

def m_put_half_and_carry (flags : Int) (half : Bool) (carry : Bool) : Int :=
  (m_put (m_put flags (16 : Int) half) (1 : Int) carry)

def m_op_daa (width : Int) (a : Int) (b : Int) (c : Int) (flags : Int) : List Int :=
  let low := (m_is_low_digit_off a flags)
  let high := (m_is_high_digit_off a flags)
  let lo := ((a + (m_amount_off low high)) % (256 : Int))
  (m_answer lo (0 : Int) (m_put_half_and_carry (m_show flags lo (8 : Int)) low high))

def m_op_das (width : Int) (a : Int) (b : Int) (c : Int) (flags : Int) : List Int :=
  let low := (m_is_low_digit_off a flags)
  let high := (m_is_high_digit_off a flags)
  let lo := ((a - (m_amount_off low high)) % (256 : Int))
  let carry := (high || (low && (decide (a < (6 : Int)))))
  (m_answer lo (0 : Int) (m_put_half_and_carry (m_show flags lo (8 : Int)) low carry))

def m_one_digit_answer (a : Int) (amount : Int) (flags : Int) : List Int :=
  let off := (m_is_low_digit_off a flags)
  let number := (if off = true then ((a + amount) % (65536 : Int)) else a)
  let lo := (((number / (256 : Int)) * (256 : Int)) + (number % (16 : Int)))
  (m_answer lo (0 : Int) (m_put_half_and_carry flags off off))

def m_op_aaa (width : Int) (a : Int) (b : Int) (c : Int) (flags : Int) : List Int :=
  (m_one_digit_answer a (262 : Int) flags)

def m_op_aas (width : Int) (a : Int) (b : Int) (c : Int) (flags : Int) : List Int :=
  (m_one_digit_answer a (-(262 : Int)) flags)

def m_op_aam (width : Int) (a : Int) (b : Int) (c : Int) (flags : Int) : List Int :=
  let divisor := (b % (256 : Int))
  if (decide (divisor = (0 : Int))) = true then
    [(-(3 : Int))]
  else
    let low := (a % (256 : Int))
    let rest := (low % divisor)
    (m_answer (((low / divisor) * (256 : Int)) + rest) (0 : Int) (m_show flags rest (8 : Int)))

def m_op_aad (width : Int) (a : Int) (b : Int) (c : Int) (flags : Int) : List Int :=
  let lo := (((a % (256 : Int)) + ((a / (256 : Int)) * (b % (256 : Int)))) % (256 : Int))
  (m_answer lo (0 : Int) (m_show flags lo (8 : Int)))

def m_run_decimal (op width a b c flags : Int) : List Int :=
  if op = 38 then m_op_daa width a b c flags else
  if op = 39 then m_op_das width a b c flags else
  if op = 40 then m_op_aaa width a b c flags else
  if op = 41 then m_op_aas width a b c flags else
  if op = 42 then m_op_aam width a b c flags else
  if op = 43 then m_op_aad width a b c flags else
  []

def m_bitwise_flags (width : Int) (lo : Int) (flags : Int) : Int :=
  let after := (m_show flags lo width)
  let after := (m_put after (1 : Int) false)
  (m_put after (2048 : Int) false)

def m_op_and (width : Int) (a : Int) (b : Int) (c : Int) (flags : Int) : List Int :=
  (m_answer (Builtin.bitAnd a b) (0 : Int) (m_bitwise_flags width (Builtin.bitAnd a b) flags))

def m_op_or (width : Int) (a : Int) (b : Int) (c : Int) (flags : Int) : List Int :=
  (m_answer (Builtin.bitOr a b) (0 : Int) (m_bitwise_flags width (Builtin.bitOr a b) flags))

def m_op_xor (width : Int) (a : Int) (b : Int) (c : Int) (flags : Int) : List Int :=
  (m_answer (Builtin.bitXor a b) (0 : Int) (m_bitwise_flags width (Builtin.bitXor a b) flags))

def m_op_test (width : Int) (a : Int) (b : Int) (c : Int) (flags : Int) : List Int :=
  (m_answer a (0 : Int) (m_bitwise_flags width (Builtin.bitAnd a b) flags))

def m_op_not (width : Int) (a : Int) (b : Int) (c : Int) (flags : Int) : List Int :=
  (m_answer ((m_greatest width) - a) (0 : Int) flags)

def m_chosen_bit (width : Int) (b : Int) : Int :=
  ((1 : Int) * 2 ^ ((b % width)).toNat)

def m_bit_flags (width : Int) (a : Int) (b : Int) (flags : Int) : Int :=
  (m_put flags (1 : Int) (decide ((m_bit a (b % width)) = (1 : Int))))

def m_op_bt (width : Int) (a : Int) (b : Int) (c : Int) (flags : Int) : List Int :=
  (m_answer a (0 : Int) (m_bit_flags width a b flags))

def m_op_bts (width : Int) (a : Int) (b : Int) (c : Int) (flags : Int) : List Int :=
  (m_answer (Builtin.bitOr a (m_chosen_bit width b)) (0 : Int) (m_bit_flags width a b flags))

def m_op_btr (width : Int) (a : Int) (b : Int) (c : Int) (flags : Int) : List Int :=
  (m_answer (Builtin.bitAnd a (Builtin.bitNot (m_chosen_bit width b))) (0 : Int) (m_bit_flags width a b flags))

def m_op_btc (width : Int) (a : Int) (b : Int) (c : Int) (flags : Int) : List Int :=
  (m_answer (Builtin.bitXor a (m_chosen_bit width b)) (0 : Int) (m_bit_flags width a b flags))

def m_op_bsf (width : Int) (a : Int) (b : Int) (c : Int) (flags : Int) : List Int :=
  if (decide (b = (0 : Int))) = true then
    (m_answer a (0 : Int) (m_put flags (64 : Int) true))
  else
    let lowest := (Builtin.bitAnd b (-b))
    (m_answer (((Builtin.Int.intBits lowest : Nat) : Int) - (1 : Int)) (0 : Int) (m_put flags (64 : Int) false))

def m_op_bsr (width : Int) (a : Int) (b : Int) (c : Int) (flags : Int) : List Int :=
  if (decide (b = (0 : Int))) = true then
    (m_answer a (0 : Int) (m_put flags (64 : Int) true))
  else
    (m_answer (((Builtin.Int.intBits b : Nat) : Int) - (1 : Int)) (0 : Int) (m_put flags (64 : Int) false))

def m_swap (a : Int) : Nat → Int
  | 0 => 0
  | i + 1 => m_swap a i * 2 ^ (8 : Int).toNat + Builtin.bitAnd (a / 2 ^ (0 + (i : Int) * 8).toNat) 255
def m_op_bswap (width a b c flags : Int) : List Int := m_answer (m_swap a (width.toNat / 8)) 0 flags

def m_op_clc (width : Int) (a : Int) (b : Int) (c : Int) (flags : Int) : List Int :=
  (m_answer a (0 : Int) (m_put flags (1 : Int) false))

def m_op_stc (width : Int) (a : Int) (b : Int) (c : Int) (flags : Int) : List Int :=
  (m_answer a (0 : Int) (m_put flags (1 : Int) true))

def m_op_cmc (width : Int) (a : Int) (b : Int) (c : Int) (flags : Int) : List Int :=
  (m_answer a (0 : Int) (m_put flags (1 : Int) (decide ((m_carry_of flags) = (0 : Int)))))

def m_run_place (op width a b c flags : Int) : List Int :=
  if op = 8 then m_op_and width a b c flags else
  if op = 9 then m_op_or width a b c flags else
  if op = 10 then m_op_xor width a b c flags else
  if op = 11 then m_op_test width a b c flags else
  if op = 12 then m_op_not width a b c flags else
  if op = 26 then m_op_bt width a b c flags else
  if op = 27 then m_op_bts width a b c flags else
  if op = 28 then m_op_btr width a b c flags else
  if op = 29 then m_op_btc width a b c flags else
  if op = 30 then m_op_bsf width a b c flags else
  if op = 31 then m_op_bsr width a b c flags else
  if op = 32 then m_op_bswap width a b c flags else
  if op = 35 then m_op_clc width a b c flags else
  if op = 36 then m_op_stc width a b c flags else
  if op = 37 then m_op_cmc width a b c flags else
  []

def m_product_answer (width : Int) (product : Int) (is_long : Bool) (flags : Int) : List Int :=
  let lo := (Builtin.bitAnd product (m_greatest width))
  let hi := (Builtin.bitAnd (product / 2 ^ (width).toNat) (m_greatest width))
  let after := (m_put flags (1 : Int) is_long)
  let after := (m_put after (2048 : Int) is_long)
  (m_answer lo hi after)

def m_op_mul (width : Int) (a : Int) (b : Int) (c : Int) (flags : Int) : List Int :=
  let product := (a * b)
  (m_product_answer width product (decide ((m_greatest width) < product)) flags)

def m_op_imul (width : Int) (a : Int) (b : Int) (c : Int) (flags : Int) : List Int :=
  let product := ((m_signed a width) * (m_signed b width))
  (m_product_answer width product (!(m_fits_signed product width)) flags)

def m_op_div (width : Int) (a : Int) (b : Int) (c : Int) (flags : Int) : List Int :=
  if (decide (b ≤ c)) = true then
    [(-(3 : Int))]
  else
    let dividend := ((c * 2 ^ (width).toNat) + a)
    (m_answer (dividend / b) (dividend % b) flags)

def m_cut_quotient (dividend : Int) (divisor : Int) : Int :=
  let quotient := ((if dividend < 0 then -dividend else dividend) / (if divisor < 0 then -divisor else divisor))
  if (((decide (dividend < (0 : Int))) != (decide (divisor < (0 : Int))))) = true then
    (-quotient)
  else
    quotient

def m_op_idiv (width : Int) (a : Int) (b : Int) (c : Int) (flags : Int) : List Int :=
  if (decide (b = (0 : Int))) = true then
    [(-(3 : Int))]
  else
    let dividend := (m_signed ((c * 2 ^ (width).toNat) + a) ((2 : Int) * width))
    let divisor := (m_signed b width)
    let quotient := (m_cut_quotient dividend divisor)
    if (!(m_fits_signed quotient width)) = true then
      [(-(3 : Int))]
    else
      let rest := (dividend - (quotient * divisor))
      (m_answer (Builtin.bitAnd quotient (m_greatest width)) (Builtin.bitAnd rest (m_greatest width)) flags)

def m_run_product (op width a b c flags : Int) : List Int :=
  if op = 22 then m_op_mul width a b c flags else
  if op = 23 then m_op_imul width a b c flags else
  if op = 24 then m_op_div width a b c flags else
  if op = 25 then m_op_idiv width a b c flags else
  []

def m_turned_left (number : Int) (size : Int) (n : Int) : Int :=
  let places := (n % size)
  (Builtin.bitAnd (Builtin.bitOr (number * 2 ^ (places).toNat) (number / 2 ^ ((size - places)).toNat)) (m_greatest size))

def m_turned_right (number : Int) (size : Int) (n : Int) : Int :=
  (m_turned_left number size (size - (n % size)))

def m_is_top_not_carry (width : Int) (number : Int) (flags : Int) : Bool :=
  ((!decide ((m_bit number (width - (1 : Int))) = (m_carry_of flags))))

def m_op_shl (width : Int) (a : Int) (b : Int) (n : Int) (flags : Int) : List Int :=
  let lo := (Builtin.bitAnd (a * 2 ^ (n).toNat) (m_greatest width))
  let after := (m_show flags lo width)
  let after := if (decide (n < width)) = true then (m_put after (1 : Int) (decide ((m_bit a (width - n)) = (1 : Int)))) else after
  let after := if (decide (n = (1 : Int))) = true then (m_put after (2048 : Int) (m_is_top_not_carry width lo after)) else after
  (m_answer lo (0 : Int) after)

def m_op_shr (width : Int) (a : Int) (b : Int) (n : Int) (flags : Int) : List Int :=
  let lo := (a / 2 ^ (n).toNat)
  let after := (m_show flags lo width)
  let after := if (decide (n < width)) = true then (m_put after (1 : Int) (decide ((m_bit a (n - (1 : Int))) = (1 : Int)))) else after
  let after := if (decide (n = (1 : Int))) = true then (m_put after (2048 : Int) (decide ((m_bit a (width - (1 : Int))) = (1 : Int)))) else after
  (m_answer lo (0 : Int) after)

def m_op_sar (width : Int) (a : Int) (b : Int) (n : Int) (flags : Int) : List Int :=
  let number := (m_signed a width)
  let lo := (Builtin.bitAnd (number / 2 ^ (n).toNat) (m_greatest width))
  let after := (m_show flags lo width)
  let after := (m_put after (1 : Int) (decide ((m_bit number (n - (1 : Int))) = (1 : Int))))
  let after := if (decide (n = (1 : Int))) = true then (m_put after (2048 : Int) false) else after
  (m_answer lo (0 : Int) after)

def m_op_rol (width : Int) (a : Int) (b : Int) (n : Int) (flags : Int) : List Int :=
  let lo := (m_turned_left a width n)
  let after := (m_put flags (1 : Int) (decide ((m_bit lo (0 : Int)) = (1 : Int))))
  let after := if (decide (n = (1 : Int))) = true then (m_put after (2048 : Int) (m_is_top_not_carry width lo after)) else after
  (m_answer lo (0 : Int) after)

def m_op_ror (width : Int) (a : Int) (b : Int) (n : Int) (flags : Int) : List Int :=
  let lo := (m_turned_right a width n)
  let after := (m_put flags (1 : Int) (decide ((m_bit lo (width - (1 : Int))) = (1 : Int))))
  let after := if (decide (n = (1 : Int))) = true then (m_put after (2048 : Int) ((!decide ((m_bit lo (width - (1 : Int))) = (m_bit lo (width - (2 : Int))))))) else after
  (m_answer lo (0 : Int) after)

def m_with_carry_above (width : Int) (a : Int) (flags : Int) : Int :=
  (((m_carry_of flags) * 2 ^ (width).toNat) + a)

def m_op_rcl (width : Int) (a : Int) (b : Int) (n : Int) (flags : Int) : List Int :=
  let turned := (m_turned_left (m_with_carry_above width a flags) (width + (1 : Int)) n)
  let lo := (Builtin.bitAnd turned (m_greatest width))
  let after := (m_put flags (1 : Int) (decide ((m_bit turned width) = (1 : Int))))
  let after := if (decide (n = (1 : Int))) = true then (m_put after (2048 : Int) (m_is_top_not_carry width lo after)) else after
  (m_answer lo (0 : Int) after)

def m_op_rcr (width : Int) (a : Int) (b : Int) (n : Int) (flags : Int) : List Int :=
  let turned := (m_turned_right (m_with_carry_above width a flags) (width + (1 : Int)) n)
  let lo := (Builtin.bitAnd turned (m_greatest width))
  let after := (m_put flags (1 : Int) (decide ((m_bit turned width) = (1 : Int))))
  let after := if (decide (n = (1 : Int))) = true then (m_put after (2048 : Int) (m_is_top_not_carry width a flags)) else after
  (m_answer lo (0 : Int) after)

def m_double_answer (width : Int) (a : Int) (lo : Int) (carry : Int) (n : Int) (flags : Int) : List Int :=
  let after := (m_show flags lo width)
  let after := (m_put after (1 : Int) (decide (carry = (1 : Int))))
  let after := if (decide (n = (1 : Int))) = true then (m_put after (2048 : Int) ((!decide ((m_bit lo (width - (1 : Int))) = (m_bit a (width - (1 : Int))))))) else after
  (m_answer lo (0 : Int) after)

def m_op_shld (width : Int) (a : Int) (b : Int) (n : Int) (flags : Int) : List Int :=
  if (decide (width < n)) = true then
    [(-(2 : Int))]
  else
    let lo := (Builtin.bitAnd ((a * 2 ^ (n).toNat) + (b / 2 ^ ((width - n)).toNat)) (m_greatest width))
    (m_double_answer width a lo (m_bit a (width - n)) n flags)

def m_op_shrd (width : Int) (a : Int) (b : Int) (n : Int) (flags : Int) : List Int :=
  if (decide (width < n)) = true then
    [(-(2 : Int))]
  else
    let lo := (Builtin.bitAnd (((b * 2 ^ (width).toNat) + a) / 2 ^ (n).toNat) (m_greatest width))
    (m_double_answer width a lo (m_bit a (n - (1 : Int))) n flags)

def m_places_to_go (op : Int) (width : Int) (b : Int) (c : Int) : Int :=
  let told := (if (decide ((20 : Int) ≤ op)) = true then c else b)
  if (decide (width = (64 : Int))) = true then
    (told % (64 : Int))
  else
    (told % (32 : Int))

def m_shift_step (op width a b n flags : Int) : List Int :=
  if op = 13 then m_op_shl width a b n flags else
  if op = 14 then m_op_shr width a b n flags else
  if op = 15 then m_op_sar width a b n flags else
  if op = 16 then m_op_rol width a b n flags else
  if op = 17 then m_op_ror width a b n flags else
  if op = 18 then m_op_rcl width a b n flags else
  if op = 19 then m_op_rcr width a b n flags else
  if op = 20 then m_op_shld width a b n flags else
  if op = 21 then m_op_shrd width a b n flags else
  []

def m_run_shift (op width a b c flags : Int) : List Int :=
  if (decide (m_places_to_go op width b c = 0)) = true then m_answer a 0 flags else m_shift_step op width a b (m_places_to_go op width b c) flags

def m_total (width : Int) (a : Int) (b : Int) (k : Int) : Int :=
  (Builtin.bitAnd ((a + b) + k) (m_greatest width))

def m_difference (width : Int) (a : Int) (b : Int) (k : Int) : Int :=
  (Builtin.bitAnd ((a - b) - k) (m_greatest width))

def m_total_flags (width : Int) (a : Int) (b : Int) (k : Int) (flags : Int) : Int :=
  let lo := (m_total width a b k)
  let exact := (((m_signed a width) + (m_signed b width)) + k)
  let after := (m_show flags lo width)
  let after := (m_put after (1 : Int) (decide ((m_greatest width) < ((a + b) + k))))
  let after := (m_put after (16 : Int) (decide ((16 : Int) ≤ (((a % (16 : Int)) + (b % (16 : Int))) + k))))
  (m_put after (2048 : Int) ((!decide (exact = (m_signed lo width)))))

def m_difference_flags (width : Int) (a : Int) (b : Int) (k : Int) (flags : Int) : Int :=
  let lo := (m_difference width a b k)
  let exact := (((m_signed a width) - (m_signed b width)) - k)
  let after := (m_show flags lo width)
  let after := (m_put after (1 : Int) (decide (a < (b + k))))
  let after := (m_put after (16 : Int) (decide ((a % (16 : Int)) < ((b % (16 : Int)) + k))))
  (m_put after (2048 : Int) ((!decide (exact = (m_signed lo width)))))

def m_with_carry_of (flags : Int) (before : Int) : Int :=
  (m_put flags (1 : Int) (decide ((m_carry_of before) = (1 : Int))))

def m_op_add (width : Int) (a : Int) (b : Int) (c : Int) (flags : Int) : List Int :=
  (m_answer (m_total width a b (0 : Int)) (0 : Int) (m_total_flags width a b (0 : Int) flags))

def m_op_adc (width : Int) (a : Int) (b : Int) (c : Int) (flags : Int) : List Int :=
  let k := (m_carry_of flags)
  (m_answer (m_total width a b k) (0 : Int) (m_total_flags width a b k flags))

def m_op_sub (width : Int) (a : Int) (b : Int) (c : Int) (flags : Int) : List Int :=
  (m_answer (m_difference width a b (0 : Int)) (0 : Int) (m_difference_flags width a b (0 : Int) flags))

def m_op_sbb (width : Int) (a : Int) (b : Int) (c : Int) (flags : Int) : List Int :=
  let k := (m_carry_of flags)
  (m_answer (m_difference width a b k) (0 : Int) (m_difference_flags width a b k flags))

def m_op_cmp (width : Int) (a : Int) (b : Int) (c : Int) (flags : Int) : List Int :=
  (m_answer a (0 : Int) (m_difference_flags width a b (0 : Int) flags))

def m_op_neg (width : Int) (a : Int) (b : Int) (c : Int) (flags : Int) : List Int :=
  (m_answer (m_difference width (0 : Int) a (0 : Int)) (0 : Int) (m_difference_flags width (0 : Int) a (0 : Int) flags))

def m_op_inc (width : Int) (a : Int) (b : Int) (c : Int) (flags : Int) : List Int :=
  let after := (m_total_flags width a (1 : Int) (0 : Int) flags)
  (m_answer (m_total width a (1 : Int) (0 : Int)) (0 : Int) (m_with_carry_of after flags))

def m_op_dec (width : Int) (a : Int) (b : Int) (c : Int) (flags : Int) : List Int :=
  let after := (m_difference_flags width a (1 : Int) (0 : Int) flags)
  (m_answer (m_difference width a (1 : Int) (0 : Int)) (0 : Int) (m_with_carry_of after flags))

def m_op_xadd (width : Int) (a : Int) (b : Int) (c : Int) (flags : Int) : List Int :=
  (m_answer (m_total width a b (0 : Int)) a (m_total_flags width a b (0 : Int) flags))

def m_op_cmpxchg (width : Int) (a : Int) (b : Int) (c : Int) (flags : Int) : List Int :=
  let lo := (if (decide (c = a)) = true then b else a)
  (m_answer lo a (m_difference_flags width c a (0 : Int) flags))

def m_run_sum (op width a b c flags : Int) : List Int :=
  if op = 0 then m_op_add width a b c flags else
  if op = 1 then m_op_adc width a b c flags else
  if op = 2 then m_op_sub width a b c flags else
  if op = 3 then m_op_sbb width a b c flags else
  if op = 4 then m_op_cmp width a b c flags else
  if op = 5 then m_op_neg width a b c flags else
  if op = 6 then m_op_inc width a b c flags else
  if op = 7 then m_op_dec width a b c flags else
  if op = 33 then m_op_xadd width a b c flags else
  if op = 34 then m_op_cmpxchg width a b c flags else
  []

def m_widths_of (op : Int) : List Int :=
  if (decide ((43 : Int) < op)) = true then
    []
  else
    if (decide ((40 : Int) ≤ op)) = true then
      [(16 : Int)]
    else
      if (decide ((38 : Int) ≤ op)) = true then
        [(8 : Int)]
      else
        if (decide (op = (32 : Int))) = true then
          [(32 : Int), (64 : Int)]
        else
          if ((decide ((20 : Int) ≤ op) && decide (op ≤ (21 : Int))) || (decide ((26 : Int) ≤ op) && decide (op ≤ (31 : Int)))) = true then
            [(16 : Int), (32 : Int), (64 : Int)]
          else
            [(8 : Int), (16 : Int), (32 : Int), (64 : Int)]

def m_run (op : Int) (width : Int) (a : Int) (b : Int) (c : Int) (flags : Int) : List Int :=
  if ((decide (op ≤ (7 : Int))) || (decide ((33 : Int) ≤ op) && decide (op ≤ (34 : Int)))) = true then
    (m_run_sum op width a b c flags)
  else
    if (decide ((13 : Int) ≤ op) && decide (op ≤ (21 : Int))) = true then
      (m_run_shift op width a b c flags)
    else
      if (decide ((22 : Int) ≤ op) && decide (op ≤ (25 : Int))) = true then
        (m_run_product op width a b c flags)
      else
        if (decide ((38 : Int) ≤ op)) = true then
          (m_run_decimal op width a b c flags)
        else
          (m_run_place op width a b c flags)

def m_do (op width a b c flags : Int) : List Int :=
  if (!decide (width ∈ m_widths_of op)) = true then [(-1 : Int)] else
  m_run op width (Builtin.bitAnd a (m_greatest width)) (Builtin.bitAnd b (m_greatest width)) (Builtin.bitAnd c (m_greatest width)) flags
end My

namespace My
open PySem L2 PyProof.Rows
theorem pw_cast (n : Nat) : (2 : Int) ^ n = ((2 ^ n : Nat) : Int) := (PySem.W.kbt_cast n).symm
theorem pw_le {n m : Nat} (h : n ≤ m) : (2 : Int) ^ n ≤ 2 ^ m := by
  rw [pw_cast, pw_cast]
  exact Int.ofNat_le.mpr (Nat.pow_le_pow_right (by decide) h)
theorem pw_pos (n : Nat) : (0 : Int) < 2 ^ n := by
  rw [pw_cast]
  exact Int.natCast_pos.mpr (Nat.two_pow_pos n)
theorem emod_nn {a b : Int} (h : b ≠ 0) : 0 ≤ a % b := Int.emod_nonneg a h
theorem emod_le {a b : Int} (h : 0 < b) (h2 : b ≤ 1000) : a % b ≤ 1000 := by
  have := Int.emod_lt_of_pos a h
  omega
theorem emod_sub {a b : Int} (h : 0 < b) : 0 ≤ b - a % b := by
  have := Int.emod_lt_of_pos a h
  omega
theorem aam_le {a d : Int} (h0 : 0 ≤ a) (h1 : a < 256) (hd : 0 < d) : (a / d).natAbs < 2 ^ 9 := by
  have h2 := Int.ediv_le_self d h0
  have h3 := Int.ediv_nonneg h0 (Int.le_of_lt hd)
  omega
theorem carry_eq (f : Int) : m_carry_of f = f % 2 := bitAnd_m1 f
theorem bit_eq (a n : Int) : m_bit a n = a / 2 ^ n.toNat % 2 := bitAnd_m1 _
theorem carry_small {f : Int} : (m_carry_of f).natAbs < 2 ^ 66 := by
  rw [carry_eq]
  omega
theorem signed_small {a w : Int} (h : 0 ≤ a ∧ a < 18446744073709551616) (hw : 1 ≤ w ∧ w ≤ 64) : (m_signed a w).natAbs < 2 ^ 66 := by
  have h1 := pw_le (n := w.toNat) (m := 64) (by omega)
  have h2 := pw_pos w.toNat
  unfold m_signed
  split <;> omega
theorem signed_ne {a w : Int} (h : a ≠ 0) (h0 : 0 ≤ a) (hw : 1 ≤ w) : m_signed a w ≠ 0 := by
  unfold m_signed
  split
  · rename_i z
    have z1 := of_decide_eq_true z
    rw [bit_eq] at z1
    intro e
    have e1 : a = 2 ^ w.toNat := by omega
    obtain ⟨n, hn⟩ : ∃ n : Nat, w.toNat = n + 1 := ⟨w.toNat - 1, by omega⟩
    have e2 : (w - 1).toNat = n := by omega
    have hp := pw_pos n
    rw [e2, e1, hn, Int.pow_succ, Int.mul_comm, Int.mul_ediv_cancel _ (by omega)] at z1
    omega
  · exact h
theorem fits_small {q w : Int} (h : (!m_fits_signed q w) = false) (hw : 1 ≤ w ∧ w ≤ 64) : q.natAbs < 2 ^ 66 := by
  have h1 := pw_le (n := (w - 1).toNat) (m := 64) (by omega)
  rw [Bool.not_eq_false'] at h
  unfold m_fits_signed at h
  dsimp only at h
  rw [Bool.and_eq_true, decide_eq_true_eq, decide_eq_true_eq] at h
  omega
theorem above_small {w a f : Int} (h : 0 ≤ a ∧ a < 18446744073709551616) (hw : 0 ≤ w) (hw2 : w ≤ 64) : (m_with_carry_above w a f).natAbs < 2 ^ 66 := by
  have h1 := pw_le (n := w.toNat) (m := 64) (by omega)
  have h2 := pw_pos w.toNat
  unfold m_with_carry_above
  rw [carry_eq]
  rcases (by omega : f % 2 = 0 ∨ f % 2 = 1) with e | e <;> rw [e] <;> omega
end My

namespace My
open PySem PyProof.Rows L2 Evl
def top (i : Nat) : Stmt := PySem.Challenge.pw_flagwork_s01_do.main.body.getD i (.Pass ⟨0, 0, 0, 0⟩)
abbrev FnP (K : PySem.W.Frag) (x : Str) (st : Stmt) (f : Addr) (fd : FuncData) : Prop := FunD K x x (defArgs st) (defBody st) (defScope st) [] [] f fd
theorem cr_fin {X : Cx} {b : List Stmt} {σ : L2.St} {H : Hp} {Q : VK} (h : CR X.nox b σ H Q) : ∃ t, PSs X b t ∧ t { nx := fun _ H' => Q .non H', rt := Q } σ H := by
  obtain ⟨t, pt, kt⟩ := h
  exact ⟨t, PSs.nox pt, kt H (Ex.refl H) _ rfl⟩
section
variable {H : Hp} {Q : VK} {p : Bool} {i j : Int} {l k : List Int} {b c : Bool}
theorem retv_t (h : p = true) (hq : RetV (.int (if p = true then i else j)) H Q) : RetV (.int i) H Q := by
  rw [if_pos h] at hq
  exact hq
theorem retv_f (h : p = false) (hq : RetV (.int (if p = true then i else j)) H Q) : RetV (.int j) H Q := by
  rw [if_neg (by rw [h]; exact Bool.false_ne_true)] at hq
  exact hq
theorem retl_t (h : p = true) (hq : RetL ((if p = true then l else k).map V.int) H Q) : RetL (l.map V.int) H Q := by
  rw [if_pos h] at hq
  exact hq
theorem retl_f (h : p = false) (hq : RetL ((if p = true then l else k).map V.int) H Q) : RetL (k.map V.int) H Q := by
  rw [if_neg (by rw [h]; exact Bool.false_ne_true)] at hq
  exact hq
theorem retu_t (h : p = true) (hq : RetU ((if p = true then l else k).map V.int) H Q) : RetU (l.map V.int) H Q := by
  rw [if_pos h] at hq
  exact hq
theorem retu_f (h : p = false) (hq : RetU ((if p = true then l else k).map V.int) H Q) : RetU (k.map V.int) H Q := by
  rw [if_neg (by rw [h]; exact Bool.false_ne_true)] at hq
  exact hq
end

theorem ct_is {X : Cx} {e : Expr} {σ : L2.St} {H : Hp} {p q : Bool} (h : CT X e σ H p) (z : p = q) : CT X e σ H q := by
  rw [← z]
  exact h
theorem flat_ints (l : List Int) : (l.map V.int).all flatV = true := by
  rw [List.all_eq_true]
  intro x hx
  obtain ⟨i, _, rfl⟩ := List.mem_map.mp hx
  rfl
theorem inV_ints (i : Int) (l : List Int) : (!inV (.int i) (l.map V.int)) = !decide (i ∈ l) := by
  have h : inV (.int i) (l.map V.int) = decide (i ∈ l) := by
    rw [Bool.eq_iff_iff, decide_eq_true_eq]
    unfold inV
    rw [List.any_eq_true]
    constructor
    · rintro ⟨x, hx, hy⟩
      obtain ⟨j, hj, rfl⟩ := List.mem_map.mp hx
      have e : j = i := eq_of_beq (show (j == i) = true from hy)
      rw [← e]
      exact hj
    · intro hi
      exact ⟨.int i, List.mem_map.mpr ⟨i, hi, rfl⟩, beq_self_eq_true i⟩
  rw [h]
/-- a dict of the module: whole numbers to defs, told by their names -/
def ITab (mg : Str → Option Value) (K : PySem.W.Frag) (d : Addr) (kvs : List (Int × Str)) : Prop :=
  ∃ es n, K.lookup d = some ⟨.type "dict", none, .dict es n, #[]⟩ ∧ (∀ e ∈ es, ∃ k, Value.isInt k e.key = true ∧ e.hash = hashInt k) ∧ ∀ q ∈ kvs, ∃ a, findBy Value.isInt es q.1 = some (.ref a) ∧ mg q.2 = some (.ref a)
def Tab (mg : Str → Option Value) (K : PySem.W.Frag) (x : Str) (kvs : List (Int × Str)) : Prop := ∃ d, mg x = some (.ref d) ∧ ITab mg K d kvs
def rTab (d : Addr) (i : Int) (f : Addr) : R2 := fun x y H Q => x = .ref d ∧ y = .int i ∧ Q (.ref f) H
theorem ix_tab {X : Cx} {d f : Addr} {i : Int} {es : Array DictEntry} {n : Nat} (hl : X.K.lookup d = some ⟨.type "dict", none, .dict es n, #[]⟩) (hk : ∀ e ∈ es, ∃ k, Value.isInt k e.key = true ∧ e.hash = hashInt k)
    (hf : findBy Value.isInt es i = some (.ref f)) : IxR X (rTab d i f) := by
  intro value slice pins s σ H x y v u Q I rx ry h hs
  obtain ⟨rfl, rfl, q⟩ := h
  obtain rfl : v = Value.ref d := rx
  obtain ⟨t, rfl⟩ := ry
  have hm : s.heap.MapOf (PySem.intKind X.prog X.w) d (fun k => findBy Value.isInt es k) := ⟨_, es, n, I.kIn _ _ hl, ⟨rfl, rfl, rfl⟩, rfl, hk, fun _ => rfl⟩
  exact tail_any hm.typeIs slot_dict_getitem.lookup (wpAny_getItem_of (PySem.intKind_is X.prog X.w i t) hm hf ⟨.ref f, H, I.tok _, rfl, q⟩) hs
theorem cr_step {X : Cx} {σ : L2.St} {H : Hp} {Q : VK} {n k : Nat} {i : Int} {tx y sx : Str} {kvs : List (Int × Str)} {sp : Sp} {b e : Expr} {es : List Expr} {vs xs : List V} {p1 p2 p4 p5 p6 p7 : Pos}
    (T : Tab X.mg X.K tx kvs) (hkey : (i, y) ∈ kvs) (F : Has X.prog X.w X.K X.mg X.base y k sp) (hr : Room k X.A) (hs : SpL sp vs H xs) (hv : PE X (.Name sx p5) (tVar n)) (hi : CE X b σ H (.int i))
    (hset : ∀ v, (σ.set n (some v))[n]? = some (some v))
    (hps : ∀ t, PE X (.Subscript (.Name tx p2) b p4) t → PS X (.Assign [.Name sx p1] (.Subscript (.Name tx p2) b p4) p6) (tAsg t (gName n)))
    (ha : ∀ f, CA X (e :: es) (σ.set n (some (.ref f))) H vs) (hq : RetL xs H Q)
    (hg : Gl X tx := by rfl) (hd : (tx == ("__debug__" : Str)) = false := by decide) (hpx : PlainIx b := by exact fun _ _ => rfl) (hN : X.N[n]? = some sx := by rfl)
    (hvis : Vis X.env.scope sx := by first | exact Or.inl rfl | exact Or.inr (Or.inl rfl) | exact Or.inr (Or.inr rfl)) (hdb : (sx == ("__debug__" : Str)) = false := by decide) (hcd : (sx == ("__classdict__" : Str)) = false := by decide)
    (he : starEach (e :: es) X.env = (false, eval e X.env) :: starEach es X.env := by rfl) (hpl : (backTo p7 (starEach es X.env)).any (·.1) = false := by rfl) {p8 : Pos} :
    CR X [.Assign [.Name sx p1] (.Subscript (.Name tx p2) b p4) p6, .Return (some (.Call (.Name sx p5) (e :: es) [] p7)) p8] σ H Q := by
  obtain ⟨d, gd, es', n', hl, hk, hall⟩ := T
  obtain ⟨f, hf, gf⟩ := hall _ hkey
  obtain ⟨f2, fd, ps, G, gm, kp, bd⟩ := F
  have ef : f2 = f := by
    have z : some (Value.ref f2) = some (Value.ref f) := gm.symm.trans gf
    cases z
    rfl
  subst ef
  obtain ⟨tb, pb, eb⟩ := hi
  obtain ⟨ta, pa, ea⟩ := ha f2
  refine ⟨_, pss_cons (hps _ (pe_ix (ix_tab hl hk hf) (pe_glob (v := .ref d) hg gd rfl hd) pb hpx)) (pss_one (ps_ret (pe_callL (i := n) G hr hN hvis kp bd .nil pass0 pa hdb hcd he hpl))), fun H1 e1 D hD => ?_⟩
  refine q_asg (v := .ref f2) ((ev_op (x := .ref d) (y := .int i) ev_c eb fun H2 _ Q q => ⟨rfl, rfl, q H2 (Ex.refl H2)⟩).mono e1) fun H2 e2 => ?_
  refine ⟨hset _, ea H2 (e1.trans e2) _ fun H3 e3 => ?_⟩
  rw [List.append_nil]
  refine hs H3 ((e1.trans e2).trans e3) _ (fun p H4 hp e4 h4 => ?_) _
  rw [hD]
  exact hq p H4 (fresh_back ((e1.trans e2).trans e3) hp) (((e1.trans e2).trans e3).trans e4) h4
/-! bounds -/
theorem rg_bytes {w : Int} (h : w = 8 ∨ w = 16 ∨ w = 32 ∨ w = 64) : RgC 0 w 8 (w.toNat / 8) := by
  rcases h with rfl | rfl | rfl | rfl <;> exact ⟨by decide, by decide, by decide, by decide⟩
theorem swap_small {a : Int} : ∀ i : Nat, 0 ≤ m_swap a i ∧ m_swap a i < 2 ^ (8 * i)
  | 0 => by
    show (0 : Int) ≤ 0 ∧ (0 : Int) < 2 ^ 0
    decide
  | i + 1 => by
    have ih := swap_small (a := a) i
    have e : m_swap a (i + 1) = m_swap a i * 256 + a / 2 ^ (0 + (i : Int) * 8).toNat % 256 := by
      show m_swap a i * 2 ^ (8 : Int).toNat + Builtin.bitAnd (a / 2 ^ (0 + (i : Int) * 8).toNat) 255 = _
      rw [bitAnd_m8]
      rfl
    have e2 : (2 : Int) ^ (8 * (i + 1)) = 2 ^ (8 * i) * 256 := by
      rw [Nat.mul_succ, Int.pow_add]
      rfl
    rw [e, e2]
    generalize (2 : Int) ^ (8 * i) = z at ih
    generalize a / 2 ^ (0 + (i : Int) * 8).toNat = y
    omega
theorem places_range {op w b c : Int} (h : m_places_to_go op w b c ≠ 0) : 1 ≤ m_places_to_go op w b c ∧ m_places_to_go op w b c ≤ 63 := by
  have h0 : 0 ≤ m_places_to_go op w b c ∧ m_places_to_go op w b c ≤ 63 := by
    unfold m_places_to_go
    dsimp only
    split <;> omega
  omega
theorem widths_mem {op w : Int} (h : (!decide (w ∈ m_widths_of op)) = false) : (w = 8 ∨ w = 16 ∨ w = 32 ∨ w = 64) ∧ op ≤ 43 := by
  rw [Bool.not_eq_false', decide_eq_true_eq] at h
  unfold m_widths_of at h
  split at h
  · simp at h
  · rename_i h1
    have h2 : op ≤ 43 := by
      have := of_decide_eq_false (Bool.eq_false_iff.mpr h1)
      omega
    refine ⟨?_, h2⟩
    repeat' split at h
    all_goals simp at h; omega
theorem widths_small {op w : Int} (h : (!decide (w ∈ m_widths_of op)) = false) : 0 ≤ w ∧ w ≤ 200 := by
  have := widths_mem h
  omega
theorem and_small {a w : Int} (h : 0 ≤ a) (hw : 0 ≤ w ∧ w ≤ 64) : 0 ≤ Builtin.bitAnd a (m_greatest w) ∧ Builtin.bitAnd a (m_greatest w) < 18446744073709551616 := by
  have h1 := pw_le (n := w.toNat) (m := 64) (by omega)
  have h2 := pw_pos w.toNat
  have h3 : m_greatest w = 2 ^ w.toNat - 1 := by
    unfold m_greatest
    rw [Int.one_mul]
  rw [h3, bitAnd_pp h (by omega)]
  have h4 : a.toNat &&& (2 ^ w.toNat - 1 : Int).toNat ≤ (2 ^ w.toNat - 1 : Int).toNat := Nat.and_le_right
  omega
theorem do_pre {op w a b c : Int} (h : 0 ≤ op ∧ 0 ≤ a ∧ 0 ≤ b ∧ 0 ≤ c) (hp : (!decide (w ∈ m_widths_of op)) = false) : (0 ≤ op ∧ op ≤ 43) ∧ (8 ≤ w ∧ w ≤ 64) ∧ (0 ≤ Builtin.bitAnd a (m_greatest w) ∧ Builtin.bitAnd a (m_greatest w) < 18446744073709551616) ∧
    (0 ≤ Builtin.bitAnd b (m_greatest w) ∧ Builtin.bitAnd b (m_greatest w) < 18446744073709551616) ∧ (0 ≤ Builtin.bitAnd c (m_greatest w) ∧ Builtin.bitAnd c (m_greatest w) < 18446744073709551616) ∧ (w = 8 ∨ w = 16 ∨ w = 32 ∨ w = 64) := by
  have h1 := widths_mem hp
  exact ⟨by omega, by omega, and_small h.2.1 (by omega), and_small h.2.2.1 (by omega), and_small h.2.2.2 (by omega), h1.1⟩

abbrev s_greatest : Stmt := top 7
theorem sc_greatest : FnScope ["width"] ["width"] (defScope s_greatest) := ⟨rfl, rfl, rfl, by decide +kernel, rfl, by decide +kernel, by decide +kernel⟩

abbrev s_bit : Stmt := top 8
theorem sc_bit : FnScope ["number", "place"] ["number", "place"] (defScope s_bit) := ⟨rfl, rfl, rfl, by decide +kernel, rfl, by decide +kernel, by decide +kernel⟩

abbrev s_signed : Stmt := top 9
theorem sc_signed : FnScope ["number", "width"] ["number", "width"] (defScope s_signed) := ⟨rfl, rfl, rfl, by decide +kernel, rfl, by decide +kernel, by decide +kernel⟩

abbrev s_fits_signed : Stmt := top 10
theorem sc_fits_signed : FnScope ["number", "width", "half"] ["number", "width"] (defScope s_fits_signed) := ⟨rfl, rfl, rfl, by decide +kernel, rfl, by decide +kernel, by decide +kernel⟩

abbrev s_carry_of : Stmt := top 11
theorem sc_carry_of : FnScope ["flags"] ["flags"] (defScope s_carry_of) := ⟨rfl, rfl, rfl, by decide +kernel, rfl, by decide +kernel, by decide +kernel⟩

abbrev s_put : Stmt := top 12
theorem sc_put : FnScope ["flags", "mark", "holds"] ["flags", "mark", "holds"] (defScope s_put) := ⟨rfl, rfl, rfl, by decide +kernel, rfl, by decide +kernel, by decide +kernel⟩

abbrev s_is_even_parity : Stmt := top 13
theorem sc_is_even_parity : FnScope ["number", "ones", "place"] ["number"] (defScope s_is_even_parity) := ⟨rfl, rfl, rfl, by decide +kernel, rfl, by decide +kernel, by decide +kernel⟩

abbrev s_show : Stmt := top 14
theorem sc_show : FnScope ["flags", "number", "width", "after"] ["flags", "number", "width"] (defScope s_show) := ⟨rfl, rfl, rfl, by decide +kernel, rfl, by decide +kernel, by decide +kernel⟩

abbrev s_answer : Stmt := top 15
theorem sc_answer : FnScope ["lo", "hi", "flags"] ["lo", "hi", "flags"] (defScope s_answer) := ⟨rfl, rfl, rfl, by decide +kernel, rfl, by decide +kernel, by decide +kernel⟩

abbrev s_is_low_digit_off : Stmt := top 17
theorem sc_is_low_digit_off : FnScope ["a", "flags"] ["a", "flags"] (defScope s_is_low_digit_off) := ⟨rfl, rfl, rfl, by decide +kernel, rfl, by decide +kernel, by decide +kernel⟩

abbrev s_is_high_digit_off : Stmt := top 18
theorem sc_is_high_digit_off : FnScope ["a", "flags"] ["a", "flags"] (defScope s_is_high_digit_off) := ⟨rfl, rfl, rfl, by decide +kernel, rfl, by decide +kernel, by decide +kernel⟩

abbrev s_amount_off : Stmt := top 19
theorem sc_amount_off : FnScope ["low", "high"] ["low", "high"] (defScope s_amount_off) := ⟨rfl, rfl, rfl, by decide +kernel, rfl, by decide +kernel, by decide +kernel⟩

abbrev s_put_half_and_carry : Stmt := top 20
theorem sc_put_half_and_carry : FnScope ["flags", "half", "carry"] ["flags", "half", "carry"] (defScope s_put_half_and_carry) := ⟨rfl, rfl, rfl, by decide +kernel, rfl, by decide +kernel, by decide +kernel⟩

abbrev s_op_daa : Stmt := top 21
theorem sc_op_daa : FnScope ["width", "a", "b", "c", "flags", "low", "high", "lo"] ["width", "a", "b", "c", "flags"] (defScope s_op_daa) := ⟨rfl, rfl, rfl, by decide +kernel, rfl, by decide +kernel, by decide +kernel⟩

abbrev s_op_das : Stmt := top 22
theorem sc_op_das : FnScope ["width", "a", "b", "c", "flags", "low", "high", "lo", "carry"] ["width", "a", "b", "c", "flags"] (defScope s_op_das) := ⟨rfl, rfl, rfl, by decide +kernel, rfl, by decide +kernel, by decide +kernel⟩

abbrev s_one_digit_answer : Stmt := top 23
theorem sc_one_digit_answer : FnScope ["a", "amount", "flags", "off", "number", "lo"] ["a", "amount", "flags"] (defScope s_one_digit_answer) := ⟨rfl, rfl, rfl, by decide +kernel, rfl, by decide +kernel, by decide +kernel⟩

abbrev s_op_aaa : Stmt := top 24
theorem sc_op_aaa : FnScope ["width", "a", "b", "c", "flags"] ["width", "a", "b", "c", "flags"] (defScope s_op_aaa) := ⟨rfl, rfl, rfl, by decide +kernel, rfl, by decide +kernel, by decide +kernel⟩

abbrev s_op_aas : Stmt := top 25
theorem sc_op_aas : FnScope ["width", "a", "b", "c", "flags"] ["width", "a", "b", "c", "flags"] (defScope s_op_aas) := ⟨rfl, rfl, rfl, by decide +kernel, rfl, by decide +kernel, by decide +kernel⟩

abbrev s_op_aam : Stmt := top 26
theorem sc_op_aam : FnScope ["width", "a", "b", "c", "flags", "divisor", "low", "rest"] ["width", "a", "b", "c", "flags"] (defScope s_op_aam) := ⟨rfl, rfl, rfl, by decide +kernel, rfl, by decide +kernel, by decide +kernel⟩

abbrev s_op_aad : Stmt := top 27
theorem sc_op_aad : FnScope ["width", "a", "b", "c", "flags", "lo"] ["width", "a", "b", "c", "flags"] (defScope s_op_aad) := ⟨rfl, rfl, rfl, by decide +kernel, rfl, by decide +kernel, by decide +kernel⟩

abbrev s_run_decimal : Stmt := top 29
theorem sc_run_decimal : FnScope ["op", "width", "a", "b", "c", "flags", "step"] ["op", "width", "a", "b", "c", "flags"] (defScope s_run_decimal) := ⟨rfl, rfl, rfl, by decide +kernel, rfl, by decide +kernel, by decide +kernel⟩

abbrev s_bitwise_flags : Stmt := top 31
theorem sc_bitwise_flags : FnScope ["width", "lo", "flags", "after"] ["width", "lo", "flags"] (defScope s_bitwise_flags) := ⟨rfl, rfl, rfl, by decide +kernel, rfl, by decide +kernel, by decide +kernel⟩

abbrev s_op_and : Stmt := top 32
theorem sc_op_and : FnScope ["width", "a", "b", "c", "flags"] ["width", "a", "b", "c", "flags"] (defScope s_op_and) := ⟨rfl, rfl, rfl, by decide +kernel, rfl, by decide +kernel, by decide +kernel⟩

abbrev s_op_or : Stmt := top 33
theorem sc_op_or : FnScope ["width", "a", "b", "c", "flags"] ["width", "a", "b", "c", "flags"] (defScope s_op_or) := ⟨rfl, rfl, rfl, by decide +kernel, rfl, by decide +kernel, by decide +kernel⟩

abbrev s_op_xor : Stmt := top 34
theorem sc_op_xor : FnScope ["width", "a", "b", "c", "flags"] ["width", "a", "b", "c", "flags"] (defScope s_op_xor) := ⟨rfl, rfl, rfl, by decide +kernel, rfl, by decide +kernel, by decide +kernel⟩

abbrev s_op_test : Stmt := top 35
theorem sc_op_test : FnScope ["width", "a", "b", "c", "flags"] ["width", "a", "b", "c", "flags"] (defScope s_op_test) := ⟨rfl, rfl, rfl, by decide +kernel, rfl, by decide +kernel, by decide +kernel⟩

abbrev s_op_not : Stmt := top 36
theorem sc_op_not : FnScope ["width", "a", "b", "c", "flags"] ["width", "a", "b", "c", "flags"] (defScope s_op_not) := ⟨rfl, rfl, rfl, by decide +kernel, rfl, by decide +kernel, by decide +kernel⟩

abbrev s_chosen_bit : Stmt := top 37
theorem sc_chosen_bit : FnScope ["width", "b"] ["width", "b"] (defScope s_chosen_bit) := ⟨rfl, rfl, rfl, by decide +kernel, rfl, by decide +kernel, by decide +kernel⟩

abbrev s_bit_flags : Stmt := top 38
theorem sc_bit_flags : FnScope ["width", "a", "b", "flags"] ["width", "a", "b", "flags"] (defScope s_bit_flags) := ⟨rfl, rfl, rfl, by decide +kernel, rfl, by decide +kernel, by decide +kernel⟩

abbrev s_op_bt : Stmt := top 39
theorem sc_op_bt : FnScope ["width", "a", "b", "c", "flags"] ["width", "a", "b", "c", "flags"] (defScope s_op_bt) := ⟨rfl, rfl, rfl, by decide +kernel, rfl, by decide +kernel, by decide +kernel⟩

abbrev s_op_bts : Stmt := top 40
theorem sc_op_bts : FnScope ["width", "a", "b", "c", "flags"] ["width", "a", "b", "c", "flags"] (defScope s_op_bts) := ⟨rfl, rfl, rfl, by decide +kernel, rfl, by decide +kernel, by decide +kernel⟩

abbrev s_op_btr : Stmt := top 41
theorem sc_op_btr : FnScope ["width", "a", "b", "c", "flags"] ["width", "a", "b", "c", "flags"] (defScope s_op_btr) := ⟨rfl, rfl, rfl, by decide +kernel, rfl, by decide +kernel, by decide +kernel⟩

abbrev s_op_btc : Stmt := top 42
theorem sc_op_btc : FnScope ["width", "a", "b", "c", "flags"] ["width", "a", "b", "c", "flags"] (defScope s_op_btc) := ⟨rfl, rfl, rfl, by decide +kernel, rfl, by decide +kernel, by decide +kernel⟩

abbrev s_op_bsf : Stmt := top 43
theorem sc_op_bsf : FnScope ["width", "a", "b", "c", "flags", "lowest"] ["width", "a", "b", "c", "flags"] (defScope s_op_bsf) := ⟨rfl, rfl, rfl, by decide +kernel, rfl, by decide +kernel, by decide +kernel⟩

abbrev s_op_bsr : Stmt := top 44
theorem sc_op_bsr : FnScope ["width", "a", "b", "c", "flags"] ["width", "a", "b", "c", "flags"] (defScope s_op_bsr) := ⟨rfl, rfl, rfl, by decide +kernel, rfl, by decide +kernel, by decide +kernel⟩

abbrev s_op_bswap : Stmt := top 45
theorem sc_op_bswap : FnScope ["width", "a", "b", "c", "flags", "lo", "place"] ["width", "a", "b", "c", "flags"] (defScope s_op_bswap) := ⟨rfl, rfl, rfl, by decide +kernel, rfl, by decide +kernel, by decide +kernel⟩

abbrev s_op_clc : Stmt := top 46
theorem sc_op_clc : FnScope ["width", "a", "b", "c", "flags"] ["width", "a", "b", "c", "flags"] (defScope s_op_clc) := ⟨rfl, rfl, rfl, by decide +kernel, rfl, by decide +kernel, by decide +kernel⟩

abbrev s_op_stc : Stmt := top 47
theorem sc_op_stc : FnScope ["width", "a", "b", "c", "flags"] ["width", "a", "b", "c", "flags"] (defScope s_op_stc) := ⟨rfl, rfl, rfl, by decide +kernel, rfl, by decide +kernel, by decide +kernel⟩

abbrev s_op_cmc : Stmt := top 48
theorem sc_op_cmc : FnScope ["width", "a", "b", "c", "flags"] ["width", "a", "b", "c", "flags"] (defScope s_op_cmc) := ⟨rfl, rfl, rfl, by decide +kernel, rfl, by decide +kernel, by decide +kernel⟩

abbrev s_run_place : Stmt := top 50
theorem sc_run_place : FnScope ["op", "width", "a", "b", "c", "flags", "step"] ["op", "width", "a", "b", "c", "flags"] (defScope s_run_place) := ⟨rfl, rfl, rfl, by decide +kernel, rfl, by decide +kernel, by decide +kernel⟩

abbrev s_product_answer : Stmt := top 52
theorem sc_product_answer : FnScope ["width", "product", "is_long", "flags", "lo", "hi", "after"] ["width", "product", "is_long", "flags"] (defScope s_product_answer) := ⟨rfl, rfl, rfl, by decide +kernel, rfl, by decide +kernel, by decide +kernel⟩

abbrev s_op_mul : Stmt := top 53
theorem sc_op_mul : FnScope ["width", "a", "b", "c", "flags", "product"] ["width", "a", "b", "c", "flags"] (defScope s_op_mul) := ⟨rfl, rfl, rfl, by decide +kernel, rfl, by decide +kernel, by decide +kernel⟩

abbrev s_op_imul : Stmt := top 54
theorem sc_op_imul : FnScope ["width", "a", "b", "c", "flags", "product"] ["width", "a", "b", "c", "flags"] (defScope s_op_imul) := ⟨rfl, rfl, rfl, by decide +kernel, rfl, by decide +kernel, by decide +kernel⟩

abbrev s_op_div : Stmt := top 55
theorem sc_op_div : FnScope ["width", "a", "b", "c", "flags", "dividend"] ["width", "a", "b", "c", "flags"] (defScope s_op_div) := ⟨rfl, rfl, rfl, by decide +kernel, rfl, by decide +kernel, by decide +kernel⟩

abbrev s_cut_quotient : Stmt := top 56
theorem sc_cut_quotient : FnScope ["dividend", "divisor", "quotient"] ["dividend", "divisor"] (defScope s_cut_quotient) := ⟨rfl, rfl, rfl, by decide +kernel, rfl, by decide +kernel, by decide +kernel⟩

abbrev s_op_idiv : Stmt := top 57
theorem sc_op_idiv : FnScope ["width", "a", "b", "c", "flags", "dividend", "divisor", "quotient", "rest"] ["width", "a", "b", "c", "flags"] (defScope s_op_idiv) := ⟨rfl, rfl, rfl, by decide +kernel, rfl, by decide +kernel, by decide +kernel⟩

abbrev s_run_product : Stmt := top 59
theorem sc_run_product : FnScope ["op", "width", "a", "b", "c", "flags", "step"] ["op", "width", "a", "b", "c", "flags"] (defScope s_run_product) := ⟨rfl, rfl, rfl, by decide +kernel, rfl, by decide +kernel, by decide +kernel⟩

abbrev s_turned_left : Stmt := top 61
theorem sc_turned_left : FnScope ["number", "size", "n", "places"] ["number", "size", "n"] (defScope s_turned_left) := ⟨rfl, rfl, rfl, by decide +kernel, rfl, by decide +kernel, by decide +kernel⟩

abbrev s_turned_right : Stmt := top 62
theorem sc_turned_right : FnScope ["number", "size", "n"] ["number", "size", "n"] (defScope s_turned_right) := ⟨rfl, rfl, rfl, by decide +kernel, rfl, by decide +kernel, by decide +kernel⟩

abbrev s_is_top_not_carry : Stmt := top 63
theorem sc_is_top_not_carry : FnScope ["width", "number", "flags"] ["width", "number", "flags"] (defScope s_is_top_not_carry) := ⟨rfl, rfl, rfl, by decide +kernel, rfl, by decide +kernel, by decide +kernel⟩

abbrev s_op_shl : Stmt := top 64
theorem sc_op_shl : FnScope ["width", "a", "b", "n", "flags", "lo", "after"] ["width", "a", "b", "n", "flags"] (defScope s_op_shl) := ⟨rfl, rfl, rfl, by decide +kernel, rfl, by decide +kernel, by decide +kernel⟩

abbrev s_op_shr : Stmt := top 65
theorem sc_op_shr : FnScope ["width", "a", "b", "n", "flags", "lo", "after"] ["width", "a", "b", "n", "flags"] (defScope s_op_shr) := ⟨rfl, rfl, rfl, by decide +kernel, rfl, by decide +kernel, by decide +kernel⟩

abbrev s_op_sar : Stmt := top 66
theorem sc_op_sar : FnScope ["width", "a", "b", "n", "flags", "number", "lo", "after"] ["width", "a", "b", "n", "flags"] (defScope s_op_sar) := ⟨rfl, rfl, rfl, by decide +kernel, rfl, by decide +kernel, by decide +kernel⟩

abbrev s_op_rol : Stmt := top 67
theorem sc_op_rol : FnScope ["width", "a", "b", "n", "flags", "lo", "after"] ["width", "a", "b", "n", "flags"] (defScope s_op_rol) := ⟨rfl, rfl, rfl, by decide +kernel, rfl, by decide +kernel, by decide +kernel⟩

abbrev s_op_ror : Stmt := top 68
theorem sc_op_ror : FnScope ["width", "a", "b", "n", "flags", "lo", "after"] ["width", "a", "b", "n", "flags"] (defScope s_op_ror) := ⟨rfl, rfl, rfl, by decide +kernel, rfl, by decide +kernel, by decide +kernel⟩

abbrev s_with_carry_above : Stmt := top 69
theorem sc_with_carry_above : FnScope ["width", "a", "flags"] ["width", "a", "flags"] (defScope s_with_carry_above) := ⟨rfl, rfl, rfl, by decide +kernel, rfl, by decide +kernel, by decide +kernel⟩

abbrev s_op_rcl : Stmt := top 70
theorem sc_op_rcl : FnScope ["width", "a", "b", "n", "flags", "turned", "lo", "after"] ["width", "a", "b", "n", "flags"] (defScope s_op_rcl) := ⟨rfl, rfl, rfl, by decide +kernel, rfl, by decide +kernel, by decide +kernel⟩

abbrev s_op_rcr : Stmt := top 71
theorem sc_op_rcr : FnScope ["width", "a", "b", "n", "flags", "turned", "lo", "after"] ["width", "a", "b", "n", "flags"] (defScope s_op_rcr) := ⟨rfl, rfl, rfl, by decide +kernel, rfl, by decide +kernel, by decide +kernel⟩

abbrev s_double_answer : Stmt := top 72
theorem sc_double_answer : FnScope ["width", "a", "lo", "carry", "n", "flags", "after"] ["width", "a", "lo", "carry", "n", "flags"] (defScope s_double_answer) := ⟨rfl, rfl, rfl, by decide +kernel, rfl, by decide +kernel, by decide +kernel⟩

abbrev s_op_shld : Stmt := top 73
theorem sc_op_shld : FnScope ["width", "a", "b", "n", "flags", "lo"] ["width", "a", "b", "n", "flags"] (defScope s_op_shld) := ⟨rfl, rfl, rfl, by decide +kernel, rfl, by decide +kernel, by decide +kernel⟩

abbrev s_op_shrd : Stmt := top 74
theorem sc_op_shrd : FnScope ["width", "a", "b", "n", "flags", "lo"] ["width", "a", "b", "n", "flags"] (defScope s_op_shrd) := ⟨rfl, rfl, rfl, by decide +kernel, rfl, by decide +kernel, by decide +kernel⟩

abbrev s_places_to_go : Stmt := top 76
theorem sc_places_to_go : FnScope ["op", "width", "b", "c", "told"] ["op", "width", "b", "c"] (defScope s_places_to_go) := ⟨rfl, rfl, rfl, by decide +kernel, rfl, by decide +kernel, by decide +kernel⟩

abbrev s_run_shift : Stmt := top 77
theorem sc_run_shift : FnScope ["op", "width", "a", "b", "c", "flags", "n", "step"] ["op", "width", "a", "b", "c", "flags"] (defScope s_run_shift) := ⟨rfl, rfl, rfl, by decide +kernel, rfl, by decide +kernel, by decide +kernel⟩

abbrev s_total : Stmt := top 79
theorem sc_total : FnScope ["width", "a", "b", "k"] ["width", "a", "b", "k"] (defScope s_total) := ⟨rfl, rfl, rfl, by decide +kernel, rfl, by decide +kernel, by decide +kernel⟩

abbrev s_difference : Stmt := top 80
theorem sc_difference : FnScope ["width", "a", "b", "k"] ["width", "a", "b", "k"] (defScope s_difference) := ⟨rfl, rfl, rfl, by decide +kernel, rfl, by decide +kernel, by decide +kernel⟩

abbrev s_total_flags : Stmt := top 81
theorem sc_total_flags : FnScope ["width", "a", "b", "k", "flags", "lo", "exact", "after"] ["width", "a", "b", "k", "flags"] (defScope s_total_flags) := ⟨rfl, rfl, rfl, by decide +kernel, rfl, by decide +kernel, by decide +kernel⟩

abbrev s_difference_flags : Stmt := top 82
theorem sc_difference_flags : FnScope ["width", "a", "b", "k", "flags", "lo", "exact", "after"] ["width", "a", "b", "k", "flags"] (defScope s_difference_flags) := ⟨rfl, rfl, rfl, by decide +kernel, rfl, by decide +kernel, by decide +kernel⟩

abbrev s_with_carry_of : Stmt := top 83
theorem sc_with_carry_of : FnScope ["flags", "before"] ["flags", "before"] (defScope s_with_carry_of) := ⟨rfl, rfl, rfl, by decide +kernel, rfl, by decide +kernel, by decide +kernel⟩

abbrev s_op_add : Stmt := top 84
theorem sc_op_add : FnScope ["width", "a", "b", "c", "flags"] ["width", "a", "b", "c", "flags"] (defScope s_op_add) := ⟨rfl, rfl, rfl, by decide +kernel, rfl, by decide +kernel, by decide +kernel⟩

abbrev s_op_adc : Stmt := top 85
theorem sc_op_adc : FnScope ["width", "a", "b", "c", "flags", "k"] ["width", "a", "b", "c", "flags"] (defScope s_op_adc) := ⟨rfl, rfl, rfl, by decide +kernel, rfl, by decide +kernel, by decide +kernel⟩

abbrev s_op_sub : Stmt := top 86
theorem sc_op_sub : FnScope ["width", "a", "b", "c", "flags"] ["width", "a", "b", "c", "flags"] (defScope s_op_sub) := ⟨rfl, rfl, rfl, by decide +kernel, rfl, by decide +kernel, by decide +kernel⟩

abbrev s_op_sbb : Stmt := top 87
theorem sc_op_sbb : FnScope ["width", "a", "b", "c", "flags", "k"] ["width", "a", "b", "c", "flags"] (defScope s_op_sbb) := ⟨rfl, rfl, rfl, by decide +kernel, rfl, by decide +kernel, by decide +kernel⟩

abbrev s_op_cmp : Stmt := top 88
theorem sc_op_cmp : FnScope ["width", "a", "b", "c", "flags"] ["width", "a", "b", "c", "flags"] (defScope s_op_cmp) := ⟨rfl, rfl, rfl, by decide +kernel, rfl, by decide +kernel, by decide +kernel⟩

abbrev s_op_neg : Stmt := top 89
theorem sc_op_neg : FnScope ["width", "a", "b", "c", "flags"] ["width", "a", "b", "c", "flags"] (defScope s_op_neg) := ⟨rfl, rfl, rfl, by decide +kernel, rfl, by decide +kernel, by decide +kernel⟩

abbrev s_op_inc : Stmt := top 90
theorem sc_op_inc : FnScope ["width", "a", "b", "c", "flags", "after"] ["width", "a", "b", "c", "flags"] (defScope s_op_inc) := ⟨rfl, rfl, rfl, by decide +kernel, rfl, by decide +kernel, by decide +kernel⟩

abbrev s_op_dec : Stmt := top 91
theorem sc_op_dec : FnScope ["width", "a", "b", "c", "flags", "after"] ["width", "a", "b", "c", "flags"] (defScope s_op_dec) := ⟨rfl, rfl, rfl, by decide +kernel, rfl, by decide +kernel, by decide +kernel⟩

abbrev s_op_xadd : Stmt := top 92
theorem sc_op_xadd : FnScope ["width", "a", "b", "c", "flags"] ["width", "a", "b", "c", "flags"] (defScope s_op_xadd) := ⟨rfl, rfl, rfl, by decide +kernel, rfl, by decide +kernel, by decide +kernel⟩

abbrev s_op_cmpxchg : Stmt := top 93
theorem sc_op_cmpxchg : FnScope ["width", "a", "b", "c", "flags", "lo"] ["width", "a", "b", "c", "flags"] (defScope s_op_cmpxchg) := ⟨rfl, rfl, rfl, by decide +kernel, rfl, by decide +kernel, by decide +kernel⟩

abbrev s_run_sum : Stmt := top 95
theorem sc_run_sum : FnScope ["op", "width", "a", "b", "c", "flags", "step"] ["op", "width", "a", "b", "c", "flags"] (defScope s_run_sum) := ⟨rfl, rfl, rfl, by decide +kernel, rfl, by decide +kernel, by decide +kernel⟩

abbrev s_widths_of : Stmt := top 97
theorem sc_widths_of : FnScope ["op"] ["op"] (defScope s_widths_of) := ⟨rfl, rfl, rfl, by decide +kernel, rfl, by decide +kernel, by decide +kernel⟩

abbrev s_run : Stmt := top 98
theorem sc_run : FnScope ["op", "width", "a", "b", "c", "flags"] ["op", "width", "a", "b", "c", "flags"] (defScope s_run) := ⟨rfl, rfl, rfl, by decide +kernel, rfl, by decide +kernel, by decide +kernel⟩

abbrev s_do : Stmt := top 99
theorem sc_do : FnScope ["op", "width", "a", "b", "c", "flags", "most"] ["op", "width", "a", "b", "c", "flags"] (defScope s_do) := ⟨rfl, rfl, rfl, by decide +kernel, rfl, by decide +kernel, by decide +kernel⟩

def sp_greatest : Sp := fun vs H Q _ => ∃ (width : Int), vs = [.int width] ∧ (0 ≤ width ∧ width ≤ 200) ∧ RetV (.int (m_greatest width)) H Q
theorem v_greatest {width : Int} {H : Hp} (pre : 0 ≤ width ∧ width ≤ 200) : SpV sp_greatest [.int width] H (.int (m_greatest width)) := fun _ _ _ q _ => ⟨width, rfl, pre, q⟩

def sp_bit : Sp := fun vs H Q _ => ∃ (number : Int) (place : Int), vs = [.int number, .int place] ∧ (0 ≤ place) ∧ RetV (.int (m_bit number place)) H Q
theorem v_bit {number : Int} {place : Int} {H : Hp} (pre : 0 ≤ place) : SpV sp_bit [.int number, .int place] H (.int (m_bit number place)) := fun _ _ _ q _ => ⟨number, place, rfl, pre, q⟩

def sp_signed : Sp := fun vs H Q _ => ∃ (number : Int) (width : Int), vs = [.int number, .int width] ∧ (1 ≤ width ∧ width ≤ 200) ∧ RetV (.int (m_signed number width)) H Q
theorem v_signed {number : Int} {width : Int} {H : Hp} (pre : 1 ≤ width ∧ width ≤ 200) : SpV sp_signed [.int number, .int width] H (.int (m_signed number width)) := fun _ _ _ q _ => ⟨number, width, rfl, pre, q⟩

def sp_fits_signed : Sp := fun vs H Q _ => ∃ (number : Int) (width : Int), vs = [.int number, .int width] ∧ (1 ≤ width ∧ width ≤ 200) ∧ RetV (.bl (m_fits_signed number width)) H Q
theorem v_fits_signed {number : Int} {width : Int} {H : Hp} (pre : 1 ≤ width ∧ width ≤ 200) : SpV sp_fits_signed [.int number, .int width] H (.bl (m_fits_signed number width)) := fun _ _ _ q _ => ⟨number, width, rfl, pre, q⟩

def sp_carry_of : Sp := fun vs H Q _ => ∃ (flags : Int), vs = [.int flags] ∧ RetV (.int (m_carry_of flags)) H Q
theorem v_carry_of {flags : Int} {H : Hp} : SpV sp_carry_of [.int flags] H (.int (m_carry_of flags)) := fun _ _ _ q _ => ⟨flags, rfl, q⟩

def sp_put : Sp := fun vs H Q _ => ∃ (flags : Int) (mark : Int) (holds : Bool), vs = [.int flags, .int mark, .bl holds] ∧ RetV (.int (m_put flags mark holds)) H Q
theorem v_put {flags : Int} {mark : Int} {holds : Bool} {H : Hp} : SpV sp_put [.int flags, .int mark, .bl holds] H (.int (m_put flags mark holds)) := fun _ _ _ q _ => ⟨flags, mark, holds, rfl, q⟩

def sp_is_even_parity : Sp := fun vs H Q _ => ∃ (number : Int), vs = [.int number] ∧ RetV (.bl (m_is_even_parity number)) H Q
theorem v_is_even_parity {number : Int} {H : Hp} : SpV sp_is_even_parity [.int number] H (.bl (m_is_even_parity number)) := fun _ _ _ q _ => ⟨number, rfl, q⟩

def sp_show : Sp := fun vs H Q _ => ∃ (flags : Int) (number : Int) (width : Int), vs = [.int flags, .int number, .int width] ∧ (1 ≤ width) ∧ RetV (.int (m_show flags number width)) H Q
theorem v_show {flags : Int} {number : Int} {width : Int} {H : Hp} (pre : 1 ≤ width) : SpV sp_show [.int flags, .int number, .int width] H (.int (m_show flags number width)) := fun _ _ _ q _ => ⟨flags, number, width, rfl, pre, q⟩

def sp_answer : Sp := fun vs H Q _ => ∃ (lo : Int) (hi : Int) (flags : Int), vs = [.int lo, .int hi, .int flags] ∧ RetL ((m_answer lo hi flags).map V.int) H Q
theorem v_answer {lo : Int} {hi : Int} {flags : Int} {H : Hp} : SpL sp_answer [.int lo, .int hi, .int flags] H ((m_answer lo hi flags).map V.int) := fun _ _ _ q _ => ⟨lo, hi, flags, rfl, q⟩

def sp_is_low_digit_off : Sp := fun vs H Q _ => ∃ (a : Int) (flags : Int), vs = [.int a, .int flags] ∧ RetV (.bl (m_is_low_digit_off a flags)) H Q
theorem v_is_low_digit_off {a : Int} {flags : Int} {H : Hp} : SpV sp_is_low_digit_off [.int a, .int flags] H (.bl (m_is_low_digit_off a flags)) := fun _ _ _ q _ => ⟨a, flags, rfl, q⟩

def sp_is_high_digit_off : Sp := fun vs H Q _ => ∃ (a : Int) (flags : Int), vs = [.int a, .int flags] ∧ RetV (.bl (m_is_high_digit_off a flags)) H Q
theorem v_is_high_digit_off {a : Int} {flags : Int} {H : Hp} : SpV sp_is_high_digit_off [.int a, .int flags] H (.bl (m_is_high_digit_off a flags)) := fun _ _ _ q _ => ⟨a, flags, rfl, q⟩

def sp_amount_off : Sp := fun vs H Q _ => ∃ (low : Bool) (high : Bool), vs = [.bl low, .bl high] ∧ RetV (.int (m_amount_off low high)) H Q
theorem v_amount_off {low : Bool} {high : Bool} {H : Hp} : SpV sp_amount_off [.bl low, .bl high] H (.int (m_amount_off low high)) := fun _ _ _ q _ => ⟨low, high, rfl, q⟩

def sp_put_half_and_carry : Sp := fun vs H Q _ => ∃ (flags : Int) (half : Bool) (carry : Bool), vs = [.int flags, .bl half, .bl carry] ∧ RetV (.int (m_put_half_and_carry flags half carry)) H Q
theorem v_put_half_and_carry {flags : Int} {half : Bool} {carry : Bool} {H : Hp} : SpV sp_put_half_and_carry [.int flags, .bl half, .bl carry] H (.int (m_put_half_and_carry flags half carry)) := fun _ _ _ q _ => ⟨flags, half, carry, rfl, q⟩

def sp_op_daa : Sp := fun vs H Q _ => ∃ (width : Int) (a : Int) (b : Int) (c : Int) (flags : Int), vs = [.int width, .int a, .int b, .int c, .int flags] ∧ ((8 ≤ width ∧ width ≤ 64) ∧ (0 ≤ a ∧ a < 18446744073709551616) ∧ (0 ≤ b ∧ b < 18446744073709551616) ∧ (0 ≤ c ∧ c < 18446744073709551616) ∧ (width = 8 ∨ width = 16 ∨ width = 32 ∨ width = 64)) ∧ RetL ((m_op_daa width a b c flags).map V.int) H Q
theorem v_op_daa {width : Int} {a : Int} {b : Int} {c : Int} {flags : Int} {H : Hp} (pre : (8 ≤ width ∧ width ≤ 64) ∧ (0 ≤ a ∧ a < 18446744073709551616) ∧ (0 ≤ b ∧ b < 18446744073709551616) ∧ (0 ≤ c ∧ c < 18446744073709551616) ∧ (width = 8 ∨ width = 16 ∨ width = 32 ∨ width = 64)) : SpL sp_op_daa [.int width, .int a, .int b, .int c, .int flags] H ((m_op_daa width a b c flags).map V.int) := fun _ _ _ q _ => ⟨width, a, b, c, flags, rfl, pre, q⟩

def sp_op_das : Sp := fun vs H Q _ => ∃ (width : Int) (a : Int) (b : Int) (c : Int) (flags : Int), vs = [.int width, .int a, .int b, .int c, .int flags] ∧ ((8 ≤ width ∧ width ≤ 64) ∧ (0 ≤ a ∧ a < 18446744073709551616) ∧ (0 ≤ b ∧ b < 18446744073709551616) ∧ (0 ≤ c ∧ c < 18446744073709551616) ∧ (width = 8 ∨ width = 16 ∨ width = 32 ∨ width = 64)) ∧ RetL ((m_op_das width a b c flags).map V.int) H Q
theorem v_op_das {width : Int} {a : Int} {b : Int} {c : Int} {flags : Int} {H : Hp} (pre : (8 ≤ width ∧ width ≤ 64) ∧ (0 ≤ a ∧ a < 18446744073709551616) ∧ (0 ≤ b ∧ b < 18446744073709551616) ∧ (0 ≤ c ∧ c < 18446744073709551616) ∧ (width = 8 ∨ width = 16 ∨ width = 32 ∨ width = 64)) : SpL sp_op_das [.int width, .int a, .int b, .int c, .int flags] H ((m_op_das width a b c flags).map V.int) := fun _ _ _ q _ => ⟨width, a, b, c, flags, rfl, pre, q⟩

def sp_one_digit_answer : Sp := fun vs H Q _ => ∃ (a : Int) (amount : Int) (flags : Int), vs = [.int a, .int amount, .int flags] ∧ (0 ≤ a ∧ a < 18446744073709551616) ∧ RetL ((m_one_digit_answer a amount flags).map V.int) H Q
theorem v_one_digit_answer {a : Int} {amount : Int} {flags : Int} {H : Hp} (pre : 0 ≤ a ∧ a < 18446744073709551616) : SpL sp_one_digit_answer [.int a, .int amount, .int flags] H ((m_one_digit_answer a amount flags).map V.int) := fun _ _ _ q _ => ⟨a, amount, flags, rfl, pre, q⟩

def sp_op_aaa : Sp := fun vs H Q _ => ∃ (width : Int) (a : Int) (b : Int) (c : Int) (flags : Int), vs = [.int width, .int a, .int b, .int c, .int flags] ∧ ((8 ≤ width ∧ width ≤ 64) ∧ (0 ≤ a ∧ a < 18446744073709551616) ∧ (0 ≤ b ∧ b < 18446744073709551616) ∧ (0 ≤ c ∧ c < 18446744073709551616) ∧ (width = 8 ∨ width = 16 ∨ width = 32 ∨ width = 64)) ∧ RetL ((m_op_aaa width a b c flags).map V.int) H Q
theorem v_op_aaa {width : Int} {a : Int} {b : Int} {c : Int} {flags : Int} {H : Hp} (pre : (8 ≤ width ∧ width ≤ 64) ∧ (0 ≤ a ∧ a < 18446744073709551616) ∧ (0 ≤ b ∧ b < 18446744073709551616) ∧ (0 ≤ c ∧ c < 18446744073709551616) ∧ (width = 8 ∨ width = 16 ∨ width = 32 ∨ width = 64)) : SpL sp_op_aaa [.int width, .int a, .int b, .int c, .int flags] H ((m_op_aaa width a b c flags).map V.int) := fun _ _ _ q _ => ⟨width, a, b, c, flags, rfl, pre, q⟩

def sp_op_aas : Sp := fun vs H Q _ => ∃ (width : Int) (a : Int) (b : Int) (c : Int) (flags : Int), vs = [.int width, .int a, .int b, .int c, .int flags] ∧ ((8 ≤ width ∧ width ≤ 64) ∧ (0 ≤ a ∧ a < 18446744073709551616) ∧ (0 ≤ b ∧ b < 18446744073709551616) ∧ (0 ≤ c ∧ c < 18446744073709551616) ∧ (width = 8 ∨ width = 16 ∨ width = 32 ∨ width = 64)) ∧ RetL ((m_op_aas width a b c flags).map V.int) H Q
theorem v_op_aas {width : Int} {a : Int} {b : Int} {c : Int} {flags : Int} {H : Hp} (pre : (8 ≤ width ∧ width ≤ 64) ∧ (0 ≤ a ∧ a < 18446744073709551616) ∧ (0 ≤ b ∧ b < 18446744073709551616) ∧ (0 ≤ c ∧ c < 18446744073709551616) ∧ (width = 8 ∨ width = 16 ∨ width = 32 ∨ width = 64)) : SpL sp_op_aas [.int width, .int a, .int b, .int c, .int flags] H ((m_op_aas width a b c flags).map V.int) := fun _ _ _ q _ => ⟨width, a, b, c, flags, rfl, pre, q⟩

def sp_op_aam : Sp := fun vs H Q _ => ∃ (width : Int) (a : Int) (b : Int) (c : Int) (flags : Int), vs = [.int width, .int a, .int b, .int c, .int flags] ∧ ((8 ≤ width ∧ width ≤ 64) ∧ (0 ≤ a ∧ a < 18446744073709551616) ∧ (0 ≤ b ∧ b < 18446744073709551616) ∧ (0 ≤ c ∧ c < 18446744073709551616) ∧ (width = 8 ∨ width = 16 ∨ width = 32 ∨ width = 64)) ∧ RetL ((m_op_aam width a b c flags).map V.int) H Q
theorem v_op_aam {width : Int} {a : Int} {b : Int} {c : Int} {flags : Int} {H : Hp} (pre : (8 ≤ width ∧ width ≤ 64) ∧ (0 ≤ a ∧ a < 18446744073709551616) ∧ (0 ≤ b ∧ b < 18446744073709551616) ∧ (0 ≤ c ∧ c < 18446744073709551616) ∧ (width = 8 ∨ width = 16 ∨ width = 32 ∨ width = 64)) : SpL sp_op_aam [.int width, .int a, .int b, .int c, .int flags] H ((m_op_aam width a b c flags).map V.int) := fun _ _ _ q _ => ⟨width, a, b, c, flags, rfl, pre, q⟩

def sp_op_aad : Sp := fun vs H Q _ => ∃ (width : Int) (a : Int) (b : Int) (c : Int) (flags : Int), vs = [.int width, .int a, .int b, .int c, .int flags] ∧ ((8 ≤ width ∧ width ≤ 64) ∧ (0 ≤ a ∧ a < 18446744073709551616) ∧ (0 ≤ b ∧ b < 18446744073709551616) ∧ (0 ≤ c ∧ c < 18446744073709551616) ∧ (width = 8 ∨ width = 16 ∨ width = 32 ∨ width = 64)) ∧ RetL ((m_op_aad width a b c flags).map V.int) H Q
theorem v_op_aad {width : Int} {a : Int} {b : Int} {c : Int} {flags : Int} {H : Hp} (pre : (8 ≤ width ∧ width ≤ 64) ∧ (0 ≤ a ∧ a < 18446744073709551616) ∧ (0 ≤ b ∧ b < 18446744073709551616) ∧ (0 ≤ c ∧ c < 18446744073709551616) ∧ (width = 8 ∨ width = 16 ∨ width = 32 ∨ width = 64)) : SpL sp_op_aad [.int width, .int a, .int b, .int c, .int flags] H ((m_op_aad width a b c flags).map V.int) := fun _ _ _ q _ => ⟨width, a, b, c, flags, rfl, pre, q⟩

def sp_run_decimal : Sp := fun vs H Q _ => ∃ (op : Int) (width : Int) (a : Int) (b : Int) (c : Int) (flags : Int), vs = [.int op, .int width, .int a, .int b, .int c, .int flags] ∧ ((38 ≤ op ∧ op ≤ 43) ∧ (8 ≤ width ∧ width ≤ 64) ∧ (0 ≤ a ∧ a < 18446744073709551616) ∧ (0 ≤ b ∧ b < 18446744073709551616) ∧ (0 ≤ c ∧ c < 18446744073709551616) ∧ (width = 8 ∨ width = 16 ∨ width = 32 ∨ width = 64)) ∧ RetL ((m_run_decimal op width a b c flags).map V.int) H Q
theorem v_run_decimal {op : Int} {width : Int} {a : Int} {b : Int} {c : Int} {flags : Int} {H : Hp} (pre : (38 ≤ op ∧ op ≤ 43) ∧ (8 ≤ width ∧ width ≤ 64) ∧ (0 ≤ a ∧ a < 18446744073709551616) ∧ (0 ≤ b ∧ b < 18446744073709551616) ∧ (0 ≤ c ∧ c < 18446744073709551616) ∧ (width = 8 ∨ width = 16 ∨ width = 32 ∨ width = 64)) : SpL sp_run_decimal [.int op, .int width, .int a, .int b, .int c, .int flags] H ((m_run_decimal op width a b c flags).map V.int) := fun _ _ _ q _ => ⟨op, width, a, b, c, flags, rfl, pre, q⟩

def sp_bitwise_flags : Sp := fun vs H Q _ => ∃ (width : Int) (lo : Int) (flags : Int), vs = [.int width, .int lo, .int flags] ∧ (1 ≤ width) ∧ RetV (.int (m_bitwise_flags width lo flags)) H Q
theorem v_bitwise_flags {width : Int} {lo : Int} {flags : Int} {H : Hp} (pre : 1 ≤ width) : SpV sp_bitwise_flags [.int width, .int lo, .int flags] H (.int (m_bitwise_flags width lo flags)) := fun _ _ _ q _ => ⟨width, lo, flags, rfl, pre, q⟩

def sp_op_and : Sp := fun vs H Q _ => ∃ (width : Int) (a : Int) (b : Int) (c : Int) (flags : Int), vs = [.int width, .int a, .int b, .int c, .int flags] ∧ ((8 ≤ width ∧ width ≤ 64) ∧ (0 ≤ a ∧ a < 18446744073709551616) ∧ (0 ≤ b ∧ b < 18446744073709551616) ∧ (0 ≤ c ∧ c < 18446744073709551616) ∧ (width = 8 ∨ width = 16 ∨ width = 32 ∨ width = 64)) ∧ RetL ((m_op_and width a b c flags).map V.int) H Q
theorem v_op_and {width : Int} {a : Int} {b : Int} {c : Int} {flags : Int} {H : Hp} (pre : (8 ≤ width ∧ width ≤ 64) ∧ (0 ≤ a ∧ a < 18446744073709551616) ∧ (0 ≤ b ∧ b < 18446744073709551616) ∧ (0 ≤ c ∧ c < 18446744073709551616) ∧ (width = 8 ∨ width = 16 ∨ width = 32 ∨ width = 64)) : SpL sp_op_and [.int width, .int a, .int b, .int c, .int flags] H ((m_op_and width a b c flags).map V.int) := fun _ _ _ q _ => ⟨width, a, b, c, flags, rfl, pre, q⟩

def sp_op_or : Sp := fun vs H Q _ => ∃ (width : Int) (a : Int) (b : Int) (c : Int) (flags : Int), vs = [.int width, .int a, .int b, .int c, .int flags] ∧ ((8 ≤ width ∧ width ≤ 64) ∧ (0 ≤ a ∧ a < 18446744073709551616) ∧ (0 ≤ b ∧ b < 18446744073709551616) ∧ (0 ≤ c ∧ c < 18446744073709551616) ∧ (width = 8 ∨ width = 16 ∨ width = 32 ∨ width = 64)) ∧ RetL ((m_op_or width a b c flags).map V.int) H Q
theorem v_op_or {width : Int} {a : Int} {b : Int} {c : Int} {flags : Int} {H : Hp} (pre : (8 ≤ width ∧ width ≤ 64) ∧ (0 ≤ a ∧ a < 18446744073709551616) ∧ (0 ≤ b ∧ b < 18446744073709551616) ∧ (0 ≤ c ∧ c < 18446744073709551616) ∧ (width = 8 ∨ width = 16 ∨ width = 32 ∨ width = 64)) : SpL sp_op_or [.int width, .int a, .int b, .int c, .int flags] H ((m_op_or width a b c flags).map V.int) := fun _ _ _ q _ => ⟨width, a, b, c, flags, rfl, pre, q⟩

def sp_op_xor : Sp := fun vs H Q _ => ∃ (width : Int) (a : Int) (b : Int) (c : Int) (flags : Int), vs = [.int width, .int a, .int b, .int c, .int flags] ∧ ((8 ≤ width ∧ width ≤ 64) ∧ (0 ≤ a ∧ a < 18446744073709551616) ∧ (0 ≤ b ∧ b < 18446744073709551616) ∧ (0 ≤ c ∧ c < 18446744073709551616) ∧ (width = 8 ∨ width = 16 ∨ width = 32 ∨ width = 64)) ∧ RetL ((m_op_xor width a b c flags).map V.int) H Q
theorem v_op_xor {width : Int} {a : Int} {b : Int} {c : Int} {flags : Int} {H : Hp} (pre : (8 ≤ width ∧ width ≤ 64) ∧ (0 ≤ a ∧ a < 18446744073709551616) ∧ (0 ≤ b ∧ b < 18446744073709551616) ∧ (0 ≤ c ∧ c < 18446744073709551616) ∧ (width = 8 ∨ width = 16 ∨ width = 32 ∨ width = 64)) : SpL sp_op_xor [.int width, .int a, .int b, .int c, .int flags] H ((m_op_xor width a b c flags).map V.int) := fun _ _ _ q _ => ⟨width, a, b, c, flags, rfl, pre, q⟩

def sp_op_test : Sp := fun vs H Q _ => ∃ (width : Int) (a : Int) (b : Int) (c : Int) (flags : Int), vs = [.int width, .int a, .int b, .int c, .int flags] ∧ ((8 ≤ width ∧ width ≤ 64) ∧ (0 ≤ a ∧ a < 18446744073709551616) ∧ (0 ≤ b ∧ b < 18446744073709551616) ∧ (0 ≤ c ∧ c < 18446744073709551616) ∧ (width = 8 ∨ width = 16 ∨ width = 32 ∨ width = 64)) ∧ RetL ((m_op_test width a b c flags).map V.int) H Q
theorem v_op_test {width : Int} {a : Int} {b : Int} {c : Int} {flags : Int} {H : Hp} (pre : (8 ≤ width ∧ width ≤ 64) ∧ (0 ≤ a ∧ a < 18446744073709551616) ∧ (0 ≤ b ∧ b < 18446744073709551616) ∧ (0 ≤ c ∧ c < 18446744073709551616) ∧ (width = 8 ∨ width = 16 ∨ width = 32 ∨ width = 64)) : SpL sp_op_test [.int width, .int a, .int b, .int c, .int flags] H ((m_op_test width a b c flags).map V.int) := fun _ _ _ q _ => ⟨width, a, b, c, flags, rfl, pre, q⟩

def sp_op_not : Sp := fun vs H Q _ => ∃ (width : Int) (a : Int) (b : Int) (c : Int) (flags : Int), vs = [.int width, .int a, .int b, .int c, .int flags] ∧ ((8 ≤ width ∧ width ≤ 64) ∧ (0 ≤ a ∧ a < 18446744073709551616) ∧ (0 ≤ b ∧ b < 18446744073709551616) ∧ (0 ≤ c ∧ c < 18446744073709551616) ∧ (width = 8 ∨ width = 16 ∨ width = 32 ∨ width = 64)) ∧ RetL ((m_op_not width a b c flags).map V.int) H Q
theorem v_op_not {width : Int} {a : Int} {b : Int} {c : Int} {flags : Int} {H : Hp} (pre : (8 ≤ width ∧ width ≤ 64) ∧ (0 ≤ a ∧ a < 18446744073709551616) ∧ (0 ≤ b ∧ b < 18446744073709551616) ∧ (0 ≤ c ∧ c < 18446744073709551616) ∧ (width = 8 ∨ width = 16 ∨ width = 32 ∨ width = 64)) : SpL sp_op_not [.int width, .int a, .int b, .int c, .int flags] H ((m_op_not width a b c flags).map V.int) := fun _ _ _ q _ => ⟨width, a, b, c, flags, rfl, pre, q⟩

def sp_chosen_bit : Sp := fun vs H Q _ => ∃ (width : Int) (b : Int), vs = [.int width, .int b] ∧ (1 ≤ width ∧ width ≤ 200) ∧ RetV (.int (m_chosen_bit width b)) H Q
theorem v_chosen_bit {width : Int} {b : Int} {H : Hp} (pre : 1 ≤ width ∧ width ≤ 200) : SpV sp_chosen_bit [.int width, .int b] H (.int (m_chosen_bit width b)) := fun _ _ _ q _ => ⟨width, b, rfl, pre, q⟩

def sp_bit_flags : Sp := fun vs H Q _ => ∃ (width : Int) (a : Int) (b : Int) (flags : Int), vs = [.int width, .int a, .int b, .int flags] ∧ (1 ≤ width ∧ width ≤ 200) ∧ RetV (.int (m_bit_flags width a b flags)) H Q
theorem v_bit_flags {width : Int} {a : Int} {b : Int} {flags : Int} {H : Hp} (pre : 1 ≤ width ∧ width ≤ 200) : SpV sp_bit_flags [.int width, .int a, .int b, .int flags] H (.int (m_bit_flags width a b flags)) := fun _ _ _ q _ => ⟨width, a, b, flags, rfl, pre, q⟩

def sp_op_bt : Sp := fun vs H Q _ => ∃ (width : Int) (a : Int) (b : Int) (c : Int) (flags : Int), vs = [.int width, .int a, .int b, .int c, .int flags] ∧ ((8 ≤ width ∧ width ≤ 64) ∧ (0 ≤ a ∧ a < 18446744073709551616) ∧ (0 ≤ b ∧ b < 18446744073709551616) ∧ (0 ≤ c ∧ c < 18446744073709551616) ∧ (width = 8 ∨ width = 16 ∨ width = 32 ∨ width = 64)) ∧ RetL ((m_op_bt width a b c flags).map V.int) H Q
theorem v_op_bt {width : Int} {a : Int} {b : Int} {c : Int} {flags : Int} {H : Hp} (pre : (8 ≤ width ∧ width ≤ 64) ∧ (0 ≤ a ∧ a < 18446744073709551616) ∧ (0 ≤ b ∧ b < 18446744073709551616) ∧ (0 ≤ c ∧ c < 18446744073709551616) ∧ (width = 8 ∨ width = 16 ∨ width = 32 ∨ width = 64)) : SpL sp_op_bt [.int width, .int a, .int b, .int c, .int flags] H ((m_op_bt width a b c flags).map V.int) := fun _ _ _ q _ => ⟨width, a, b, c, flags, rfl, pre, q⟩

def sp_op_bts : Sp := fun vs H Q _ => ∃ (width : Int) (a : Int) (b : Int) (c : Int) (flags : Int), vs = [.int width, .int a, .int b, .int c, .int flags] ∧ ((8 ≤ width ∧ width ≤ 64) ∧ (0 ≤ a ∧ a < 18446744073709551616) ∧ (0 ≤ b ∧ b < 18446744073709551616) ∧ (0 ≤ c ∧ c < 18446744073709551616) ∧ (width = 8 ∨ width = 16 ∨ width = 32 ∨ width = 64)) ∧ RetL ((m_op_bts width a b c flags).map V.int) H Q
theorem v_op_bts {width : Int} {a : Int} {b : Int} {c : Int} {flags : Int} {H : Hp} (pre : (8 ≤ width ∧ width ≤ 64) ∧ (0 ≤ a ∧ a < 18446744073709551616) ∧ (0 ≤ b ∧ b < 18446744073709551616) ∧ (0 ≤ c ∧ c < 18446744073709551616) ∧ (width = 8 ∨ width = 16 ∨ width = 32 ∨ width = 64)) : SpL sp_op_bts [.int width, .int a, .int b, .int c, .int flags] H ((m_op_bts width a b c flags).map V.int) := fun _ _ _ q _ => ⟨width, a, b, c, flags, rfl, pre, q⟩

def sp_op_btr : Sp := fun vs H Q _ => ∃ (width : Int) (a : Int) (b : Int) (c : Int) (flags : Int), vs = [.int width, .int a, .int b, .int c, .int flags] ∧ ((8 ≤ width ∧ width ≤ 64) ∧ (0 ≤ a ∧ a < 18446744073709551616) ∧ (0 ≤ b ∧ b < 18446744073709551616) ∧ (0 ≤ c ∧ c < 18446744073709551616) ∧ (width = 8 ∨ width = 16 ∨ width = 32 ∨ width = 64)) ∧ RetL ((m_op_btr width a b c flags).map V.int) H Q
theorem v_op_btr {width : Int} {a : Int} {b : Int} {c : Int} {flags : Int} {H : Hp} (pre : (8 ≤ width ∧ width ≤ 64) ∧ (0 ≤ a ∧ a < 18446744073709551616) ∧ (0 ≤ b ∧ b < 18446744073709551616) ∧ (0 ≤ c ∧ c < 18446744073709551616) ∧ (width = 8 ∨ width = 16 ∨ width = 32 ∨ width = 64)) : SpL sp_op_btr [.int width, .int a, .int b, .int c, .int flags] H ((m_op_btr width a b c flags).map V.int) := fun _ _ _ q _ => ⟨width, a, b, c, flags, rfl, pre, q⟩

def sp_op_btc : Sp := fun vs H Q _ => ∃ (width : Int) (a : Int) (b : Int) (c : Int) (flags : Int), vs = [.int width, .int a, .int b, .int c, .int flags] ∧ ((8 ≤ width ∧ width ≤ 64) ∧ (0 ≤ a ∧ a < 18446744073709551616) ∧ (0 ≤ b ∧ b < 18446744073709551616) ∧ (0 ≤ c ∧ c < 18446744073709551616) ∧ (width = 8 ∨ width = 16 ∨ width = 32 ∨ width = 64)) ∧ RetL ((m_op_btc width a b c flags).map V.int) H Q
theorem v_op_btc {width : Int} {a : Int} {b : Int} {c : Int} {flags : Int} {H : Hp} (pre : (8 ≤ width ∧ width ≤ 64) ∧ (0 ≤ a ∧ a < 18446744073709551616) ∧ (0 ≤ b ∧ b < 18446744073709551616) ∧ (0 ≤ c ∧ c < 18446744073709551616) ∧ (width = 8 ∨ width = 16 ∨ width = 32 ∨ width = 64)) : SpL sp_op_btc [.int width, .int a, .int b, .int c, .int flags] H ((m_op_btc width a b c flags).map V.int) := fun _ _ _ q _ => ⟨width, a, b, c, flags, rfl, pre, q⟩

def sp_op_bsf : Sp := fun vs H Q _ => ∃ (width : Int) (a : Int) (b : Int) (c : Int) (flags : Int), vs = [.int width, .int a, .int b, .int c, .int flags] ∧ ((8 ≤ width ∧ width ≤ 64) ∧ (0 ≤ a ∧ a < 18446744073709551616) ∧ (0 ≤ b ∧ b < 18446744073709551616) ∧ (0 ≤ c ∧ c < 18446744073709551616) ∧ (width = 8 ∨ width = 16 ∨ width = 32 ∨ width = 64)) ∧ RetL ((m_op_bsf width a b c flags).map V.int) H Q
theorem v_op_bsf {width : Int} {a : Int} {b : Int} {c : Int} {flags : Int} {H : Hp} (pre : (8 ≤ width ∧ width ≤ 64) ∧ (0 ≤ a ∧ a < 18446744073709551616) ∧ (0 ≤ b ∧ b < 18446744073709551616) ∧ (0 ≤ c ∧ c < 18446744073709551616) ∧ (width = 8 ∨ width = 16 ∨ width = 32 ∨ width = 64)) : SpL sp_op_bsf [.int width, .int a, .int b, .int c, .int flags] H ((m_op_bsf width a b c flags).map V.int) := fun _ _ _ q _ => ⟨width, a, b, c, flags, rfl, pre, q⟩

def sp_op_bsr : Sp := fun vs H Q _ => ∃ (width : Int) (a : Int) (b : Int) (c : Int) (flags : Int), vs = [.int width, .int a, .int b, .int c, .int flags] ∧ ((8 ≤ width ∧ width ≤ 64) ∧ (0 ≤ a ∧ a < 18446744073709551616) ∧ (0 ≤ b ∧ b < 18446744073709551616) ∧ (0 ≤ c ∧ c < 18446744073709551616) ∧ (width = 8 ∨ width = 16 ∨ width = 32 ∨ width = 64)) ∧ RetL ((m_op_bsr width a b c flags).map V.int) H Q
theorem v_op_bsr {width : Int} {a : Int} {b : Int} {c : Int} {flags : Int} {H : Hp} (pre : (8 ≤ width ∧ width ≤ 64) ∧ (0 ≤ a ∧ a < 18446744073709551616) ∧ (0 ≤ b ∧ b < 18446744073709551616) ∧ (0 ≤ c ∧ c < 18446744073709551616) ∧ (width = 8 ∨ width = 16 ∨ width = 32 ∨ width = 64)) : SpL sp_op_bsr [.int width, .int a, .int b, .int c, .int flags] H ((m_op_bsr width a b c flags).map V.int) := fun _ _ _ q _ => ⟨width, a, b, c, flags, rfl, pre, q⟩

def sp_op_bswap : Sp := fun vs H Q _ => ∃ (width : Int) (a : Int) (b : Int) (c : Int) (flags : Int), vs = [.int width, .int a, .int b, .int c, .int flags] ∧ ((8 ≤ width ∧ width ≤ 64) ∧ (0 ≤ a ∧ a < 18446744073709551616) ∧ (0 ≤ b ∧ b < 18446744073709551616) ∧ (0 ≤ c ∧ c < 18446744073709551616) ∧ (width = 8 ∨ width = 16 ∨ width = 32 ∨ width = 64)) ∧ RetL ((m_op_bswap width a b c flags).map V.int) H Q
theorem v_op_bswap {width : Int} {a : Int} {b : Int} {c : Int} {flags : Int} {H : Hp} (pre : (8 ≤ width ∧ width ≤ 64) ∧ (0 ≤ a ∧ a < 18446744073709551616) ∧ (0 ≤ b ∧ b < 18446744073709551616) ∧ (0 ≤ c ∧ c < 18446744073709551616) ∧ (width = 8 ∨ width = 16 ∨ width = 32 ∨ width = 64)) : SpL sp_op_bswap [.int width, .int a, .int b, .int c, .int flags] H ((m_op_bswap width a b c flags).map V.int) := fun _ _ _ q _ => ⟨width, a, b, c, flags, rfl, pre, q⟩

def sp_op_clc : Sp := fun vs H Q _ => ∃ (width : Int) (a : Int) (b : Int) (c : Int) (flags : Int), vs = [.int width, .int a, .int b, .int c, .int flags] ∧ ((8 ≤ width ∧ width ≤ 64) ∧ (0 ≤ a ∧ a < 18446744073709551616) ∧ (0 ≤ b ∧ b < 18446744073709551616) ∧ (0 ≤ c ∧ c < 18446744073709551616) ∧ (width = 8 ∨ width = 16 ∨ width = 32 ∨ width = 64)) ∧ RetL ((m_op_clc width a b c flags).map V.int) H Q
theorem v_op_clc {width : Int} {a : Int} {b : Int} {c : Int} {flags : Int} {H : Hp} (pre : (8 ≤ width ∧ width ≤ 64) ∧ (0 ≤ a ∧ a < 18446744073709551616) ∧ (0 ≤ b ∧ b < 18446744073709551616) ∧ (0 ≤ c ∧ c < 18446744073709551616) ∧ (width = 8 ∨ width = 16 ∨ width = 32 ∨ width = 64)) : SpL sp_op_clc [.int width, .int a, .int b, .int c, .int flags] H ((m_op_clc width a b c flags).map V.int) := fun _ _ _ q _ => ⟨width, a, b, c, flags, rfl, pre, q⟩

def sp_op_stc : Sp := fun vs H Q _ => ∃ (width : Int) (a : Int) (b : Int) (c : Int) (flags : Int), vs = [.int width, .int a, .int b, .int c, .int flags] ∧ ((8 ≤ width ∧ width ≤ 64) ∧ (0 ≤ a ∧ a < 18446744073709551616) ∧ (0 ≤ b ∧ b < 18446744073709551616) ∧ (0 ≤ c ∧ c < 18446744073709551616) ∧ (width = 8 ∨ width = 16 ∨ width = 32 ∨ width = 64)) ∧ RetL ((m_op_stc width a b c flags).map V.int) H Q
theorem v_op_stc {width : Int} {a : Int} {b : Int} {c : Int} {flags : Int} {H : Hp} (pre : (8 ≤ width ∧ width ≤ 64) ∧ (0 ≤ a ∧ a < 18446744073709551616) ∧ (0 ≤ b ∧ b < 18446744073709551616) ∧ (0 ≤ c ∧ c < 18446744073709551616) ∧ (width = 8 ∨ width = 16 ∨ width = 32 ∨ width = 64)) : SpL sp_op_stc [.int width, .int a, .int b, .int c, .int flags] H ((m_op_stc width a b c flags).map V.int) := fun _ _ _ q _ => ⟨width, a, b, c, flags, rfl, pre, q⟩

def sp_op_cmc : Sp := fun vs H Q _ => ∃ (width : Int) (a : Int) (b : Int) (c : Int) (flags : Int), vs = [.int width, .int a, .int b, .int c, .int flags] ∧ ((8 ≤ width ∧ width ≤ 64) ∧ (0 ≤ a ∧ a < 18446744073709551616) ∧ (0 ≤ b ∧ b < 18446744073709551616) ∧ (0 ≤ c ∧ c < 18446744073709551616) ∧ (width = 8 ∨ width = 16 ∨ width = 32 ∨ width = 64)) ∧ RetL ((m_op_cmc width a b c flags).map V.int) H Q
theorem v_op_cmc {width : Int} {a : Int} {b : Int} {c : Int} {flags : Int} {H : Hp} (pre : (8 ≤ width ∧ width ≤ 64) ∧ (0 ≤ a ∧ a < 18446744073709551616) ∧ (0 ≤ b ∧ b < 18446744073709551616) ∧ (0 ≤ c ∧ c < 18446744073709551616) ∧ (width = 8 ∨ width = 16 ∨ width = 32 ∨ width = 64)) : SpL sp_op_cmc [.int width, .int a, .int b, .int c, .int flags] H ((m_op_cmc width a b c flags).map V.int) := fun _ _ _ q _ => ⟨width, a, b, c, flags, rfl, pre, q⟩

def sp_run_place : Sp := fun vs H Q _ => ∃ (op : Int) (width : Int) (a : Int) (b : Int) (c : Int) (flags : Int), vs = [.int op, .int width, .int a, .int b, .int c, .int flags] ∧ (((8 ≤ op ∧ op ≤ 12) ∨ (26 ≤ op ∧ op ≤ 32) ∨ (35 ≤ op ∧ op ≤ 37)) ∧ (8 ≤ width ∧ width ≤ 64) ∧ (0 ≤ a ∧ a < 18446744073709551616) ∧ (0 ≤ b ∧ b < 18446744073709551616) ∧ (0 ≤ c ∧ c < 18446744073709551616) ∧ (width = 8 ∨ width = 16 ∨ width = 32 ∨ width = 64)) ∧ RetL ((m_run_place op width a b c flags).map V.int) H Q
theorem v_run_place {op : Int} {width : Int} {a : Int} {b : Int} {c : Int} {flags : Int} {H : Hp} (pre : ((8 ≤ op ∧ op ≤ 12) ∨ (26 ≤ op ∧ op ≤ 32) ∨ (35 ≤ op ∧ op ≤ 37)) ∧ (8 ≤ width ∧ width ≤ 64) ∧ (0 ≤ a ∧ a < 18446744073709551616) ∧ (0 ≤ b ∧ b < 18446744073709551616) ∧ (0 ≤ c ∧ c < 18446744073709551616) ∧ (width = 8 ∨ width = 16 ∨ width = 32 ∨ width = 64)) : SpL sp_run_place [.int op, .int width, .int a, .int b, .int c, .int flags] H ((m_run_place op width a b c flags).map V.int) := fun _ _ _ q _ => ⟨op, width, a, b, c, flags, rfl, pre, q⟩

def sp_product_answer : Sp := fun vs H Q _ => ∃ (width : Int) (product : Int) (is_long : Bool) (flags : Int), vs = [.int width, .int product, .bl is_long, .int flags] ∧ (0 ≤ width ∧ width ≤ 200) ∧ RetL ((m_product_answer width product is_long flags).map V.int) H Q
theorem v_product_answer {width : Int} {product : Int} {is_long : Bool} {flags : Int} {H : Hp} (pre : 0 ≤ width ∧ width ≤ 200) : SpL sp_product_answer [.int width, .int product, .bl is_long, .int flags] H ((m_product_answer width product is_long flags).map V.int) := fun _ _ _ q _ => ⟨width, product, is_long, flags, rfl, pre, q⟩

def sp_op_mul : Sp := fun vs H Q _ => ∃ (width : Int) (a : Int) (b : Int) (c : Int) (flags : Int), vs = [.int width, .int a, .int b, .int c, .int flags] ∧ ((8 ≤ width ∧ width ≤ 64) ∧ (0 ≤ a ∧ a < 18446744073709551616) ∧ (0 ≤ b ∧ b < 18446744073709551616) ∧ (0 ≤ c ∧ c < 18446744073709551616) ∧ (width = 8 ∨ width = 16 ∨ width = 32 ∨ width = 64)) ∧ RetL ((m_op_mul width a b c flags).map V.int) H Q
theorem v_op_mul {width : Int} {a : Int} {b : Int} {c : Int} {flags : Int} {H : Hp} (pre : (8 ≤ width ∧ width ≤ 64) ∧ (0 ≤ a ∧ a < 18446744073709551616) ∧ (0 ≤ b ∧ b < 18446744073709551616) ∧ (0 ≤ c ∧ c < 18446744073709551616) ∧ (width = 8 ∨ width = 16 ∨ width = 32 ∨ width = 64)) : SpL sp_op_mul [.int width, .int a, .int b, .int c, .int flags] H ((m_op_mul width a b c flags).map V.int) := fun _ _ _ q _ => ⟨width, a, b, c, flags, rfl, pre, q⟩

def sp_op_imul : Sp := fun vs H Q _ => ∃ (width : Int) (a : Int) (b : Int) (c : Int) (flags : Int), vs = [.int width, .int a, .int b, .int c, .int flags] ∧ ((8 ≤ width ∧ width ≤ 64) ∧ (0 ≤ a ∧ a < 18446744073709551616) ∧ (0 ≤ b ∧ b < 18446744073709551616) ∧ (0 ≤ c ∧ c < 18446744073709551616) ∧ (width = 8 ∨ width = 16 ∨ width = 32 ∨ width = 64)) ∧ RetL ((m_op_imul width a b c flags).map V.int) H Q
theorem v_op_imul {width : Int} {a : Int} {b : Int} {c : Int} {flags : Int} {H : Hp} (pre : (8 ≤ width ∧ width ≤ 64) ∧ (0 ≤ a ∧ a < 18446744073709551616) ∧ (0 ≤ b ∧ b < 18446744073709551616) ∧ (0 ≤ c ∧ c < 18446744073709551616) ∧ (width = 8 ∨ width = 16 ∨ width = 32 ∨ width = 64)) : SpL sp_op_imul [.int width, .int a, .int b, .int c, .int flags] H ((m_op_imul width a b c flags).map V.int) := fun _ _ _ q _ => ⟨width, a, b, c, flags, rfl, pre, q⟩

def sp_op_div : Sp := fun vs H Q _ => ∃ (width : Int) (a : Int) (b : Int) (c : Int) (flags : Int), vs = [.int width, .int a, .int b, .int c, .int flags] ∧ ((8 ≤ width ∧ width ≤ 64) ∧ (0 ≤ a ∧ a < 18446744073709551616) ∧ (0 ≤ b ∧ b < 18446744073709551616) ∧ (0 ≤ c ∧ c < 18446744073709551616) ∧ (width = 8 ∨ width = 16 ∨ width = 32 ∨ width = 64)) ∧ RetL ((m_op_div width a b c flags).map V.int) H Q
theorem v_op_div {width : Int} {a : Int} {b : Int} {c : Int} {flags : Int} {H : Hp} (pre : (8 ≤ width ∧ width ≤ 64) ∧ (0 ≤ a ∧ a < 18446744073709551616) ∧ (0 ≤ b ∧ b < 18446744073709551616) ∧ (0 ≤ c ∧ c < 18446744073709551616) ∧ (width = 8 ∨ width = 16 ∨ width = 32 ∨ width = 64)) : SpL sp_op_div [.int width, .int a, .int b, .int c, .int flags] H ((m_op_div width a b c flags).map V.int) := fun _ _ _ q _ => ⟨width, a, b, c, flags, rfl, pre, q⟩

def sp_cut_quotient : Sp := fun vs H Q _ => ∃ (dividend : Int) (divisor : Int), vs = [.int dividend, .int divisor] ∧ (divisor ≠ 0 ∧ divisor.natAbs < 2 ^ 66) ∧ RetV (.int (m_cut_quotient dividend divisor)) H Q
theorem v_cut_quotient {dividend : Int} {divisor : Int} {H : Hp} (pre : divisor ≠ 0 ∧ divisor.natAbs < 2 ^ 66) : SpV sp_cut_quotient [.int dividend, .int divisor] H (.int (m_cut_quotient dividend divisor)) := fun _ _ _ q _ => ⟨dividend, divisor, rfl, pre, q⟩

def sp_op_idiv : Sp := fun vs H Q _ => ∃ (width : Int) (a : Int) (b : Int) (c : Int) (flags : Int), vs = [.int width, .int a, .int b, .int c, .int flags] ∧ ((8 ≤ width ∧ width ≤ 64) ∧ (0 ≤ a ∧ a < 18446744073709551616) ∧ (0 ≤ b ∧ b < 18446744073709551616) ∧ (0 ≤ c ∧ c < 18446744073709551616) ∧ (width = 8 ∨ width = 16 ∨ width = 32 ∨ width = 64)) ∧ RetL ((m_op_idiv width a b c flags).map V.int) H Q
theorem v_op_idiv {width : Int} {a : Int} {b : Int} {c : Int} {flags : Int} {H : Hp} (pre : (8 ≤ width ∧ width ≤ 64) ∧ (0 ≤ a ∧ a < 18446744073709551616) ∧ (0 ≤ b ∧ b < 18446744073709551616) ∧ (0 ≤ c ∧ c < 18446744073709551616) ∧ (width = 8 ∨ width = 16 ∨ width = 32 ∨ width = 64)) : SpL sp_op_idiv [.int width, .int a, .int b, .int c, .int flags] H ((m_op_idiv width a b c flags).map V.int) := fun _ _ _ q _ => ⟨width, a, b, c, flags, rfl, pre, q⟩

def sp_run_product : Sp := fun vs H Q _ => ∃ (op : Int) (width : Int) (a : Int) (b : Int) (c : Int) (flags : Int), vs = [.int op, .int width, .int a, .int b, .int c, .int flags] ∧ ((22 ≤ op ∧ op ≤ 25) ∧ (8 ≤ width ∧ width ≤ 64) ∧ (0 ≤ a ∧ a < 18446744073709551616) ∧ (0 ≤ b ∧ b < 18446744073709551616) ∧ (0 ≤ c ∧ c < 18446744073709551616) ∧ (width = 8 ∨ width = 16 ∨ width = 32 ∨ width = 64)) ∧ RetL ((m_run_product op width a b c flags).map V.int) H Q
theorem v_run_product {op : Int} {width : Int} {a : Int} {b : Int} {c : Int} {flags : Int} {H : Hp} (pre : (22 ≤ op ∧ op ≤ 25) ∧ (8 ≤ width ∧ width ≤ 64) ∧ (0 ≤ a ∧ a < 18446744073709551616) ∧ (0 ≤ b ∧ b < 18446744073709551616) ∧ (0 ≤ c ∧ c < 18446744073709551616) ∧ (width = 8 ∨ width = 16 ∨ width = 32 ∨ width = 64)) : SpL sp_run_product [.int op, .int width, .int a, .int b, .int c, .int flags] H ((m_run_product op width a b c flags).map V.int) := fun _ _ _ q _ => ⟨op, width, a, b, c, flags, rfl, pre, q⟩

def sp_turned_left : Sp := fun vs H Q _ => ∃ (number : Int) (size : Int) (n : Int), vs = [.int number, .int size, .int n] ∧ ((1 ≤ size ∧ size ≤ 200) ∧ number.natAbs < 2 ^ 66) ∧ RetV (.int (m_turned_left number size n)) H Q
theorem v_turned_left {number : Int} {size : Int} {n : Int} {H : Hp} (pre : (1 ≤ size ∧ size ≤ 200) ∧ number.natAbs < 2 ^ 66) : SpV sp_turned_left [.int number, .int size, .int n] H (.int (m_turned_left number size n)) := fun _ _ _ q _ => ⟨number, size, n, rfl, pre, q⟩

def sp_turned_right : Sp := fun vs H Q _ => ∃ (number : Int) (size : Int) (n : Int), vs = [.int number, .int size, .int n] ∧ ((1 ≤ size ∧ size ≤ 200) ∧ number.natAbs < 2 ^ 66) ∧ RetV (.int (m_turned_right number size n)) H Q
theorem v_turned_right {number : Int} {size : Int} {n : Int} {H : Hp} (pre : (1 ≤ size ∧ size ≤ 200) ∧ number.natAbs < 2 ^ 66) : SpV sp_turned_right [.int number, .int size, .int n] H (.int (m_turned_right number size n)) := fun _ _ _ q _ => ⟨number, size, n, rfl, pre, q⟩

def sp_is_top_not_carry : Sp := fun vs H Q _ => ∃ (width : Int) (number : Int) (flags : Int), vs = [.int width, .int number, .int flags] ∧ (1 ≤ width) ∧ RetV (.bl (m_is_top_not_carry width number flags)) H Q
theorem v_is_top_not_carry {width : Int} {number : Int} {flags : Int} {H : Hp} (pre : 1 ≤ width) : SpV sp_is_top_not_carry [.int width, .int number, .int flags] H (.bl (m_is_top_not_carry width number flags)) := fun _ _ _ q _ => ⟨width, number, flags, rfl, pre, q⟩

def sp_op_shl : Sp := fun vs H Q _ => ∃ (width : Int) (a : Int) (b : Int) (n : Int) (flags : Int), vs = [.int width, .int a, .int b, .int n, .int flags] ∧ ((8 ≤ width ∧ width ≤ 64) ∧ (0 ≤ a ∧ a < 18446744073709551616) ∧ (0 ≤ b ∧ b < 18446744073709551616) ∧ (1 ≤ n ∧ n ≤ 63)) ∧ RetL ((m_op_shl width a b n flags).map V.int) H Q
theorem v_op_shl {width : Int} {a : Int} {b : Int} {n : Int} {flags : Int} {H : Hp} (pre : (8 ≤ width ∧ width ≤ 64) ∧ (0 ≤ a ∧ a < 18446744073709551616) ∧ (0 ≤ b ∧ b < 18446744073709551616) ∧ (1 ≤ n ∧ n ≤ 63)) : SpL sp_op_shl [.int width, .int a, .int b, .int n, .int flags] H ((m_op_shl width a b n flags).map V.int) := fun _ _ _ q _ => ⟨width, a, b, n, flags, rfl, pre, q⟩

def sp_op_shr : Sp := fun vs H Q _ => ∃ (width : Int) (a : Int) (b : Int) (n : Int) (flags : Int), vs = [.int width, .int a, .int b, .int n, .int flags] ∧ ((8 ≤ width ∧ width ≤ 64) ∧ (0 ≤ a ∧ a < 18446744073709551616) ∧ (0 ≤ b ∧ b < 18446744073709551616) ∧ (1 ≤ n ∧ n ≤ 63)) ∧ RetL ((m_op_shr width a b n flags).map V.int) H Q
theorem v_op_shr {width : Int} {a : Int} {b : Int} {n : Int} {flags : Int} {H : Hp} (pre : (8 ≤ width ∧ width ≤ 64) ∧ (0 ≤ a ∧ a < 18446744073709551616) ∧ (0 ≤ b ∧ b < 18446744073709551616) ∧ (1 ≤ n ∧ n ≤ 63)) : SpL sp_op_shr [.int width, .int a, .int b, .int n, .int flags] H ((m_op_shr width a b n flags).map V.int) := fun _ _ _ q _ => ⟨width, a, b, n, flags, rfl, pre, q⟩

def sp_op_sar : Sp := fun vs H Q _ => ∃ (width : Int) (a : Int) (b : Int) (n : Int) (flags : Int), vs = [.int width, .int a, .int b, .int n, .int flags] ∧ ((8 ≤ width ∧ width ≤ 64) ∧ (0 ≤ a ∧ a < 18446744073709551616) ∧ (0 ≤ b ∧ b < 18446744073709551616) ∧ (1 ≤ n ∧ n ≤ 63)) ∧ RetL ((m_op_sar width a b n flags).map V.int) H Q
theorem v_op_sar {width : Int} {a : Int} {b : Int} {n : Int} {flags : Int} {H : Hp} (pre : (8 ≤ width ∧ width ≤ 64) ∧ (0 ≤ a ∧ a < 18446744073709551616) ∧ (0 ≤ b ∧ b < 18446744073709551616) ∧ (1 ≤ n ∧ n ≤ 63)) : SpL sp_op_sar [.int width, .int a, .int b, .int n, .int flags] H ((m_op_sar width a b n flags).map V.int) := fun _ _ _ q _ => ⟨width, a, b, n, flags, rfl, pre, q⟩

def sp_op_rol : Sp := fun vs H Q _ => ∃ (width : Int) (a : Int) (b : Int) (n : Int) (flags : Int), vs = [.int width, .int a, .int b, .int n, .int flags] ∧ ((8 ≤ width ∧ width ≤ 64) ∧ (0 ≤ a ∧ a < 18446744073709551616) ∧ (0 ≤ b ∧ b < 18446744073709551616) ∧ (1 ≤ n ∧ n ≤ 63)) ∧ RetL ((m_op_rol width a b n flags).map V.int) H Q
theorem v_op_rol {width : Int} {a : Int} {b : Int} {n : Int} {flags : Int} {H : Hp} (pre : (8 ≤ width ∧ width ≤ 64) ∧ (0 ≤ a ∧ a < 18446744073709551616) ∧ (0 ≤ b ∧ b < 18446744073709551616) ∧ (1 ≤ n ∧ n ≤ 63)) : SpL sp_op_rol [.int width, .int a, .int b, .int n, .int flags] H ((m_op_rol width a b n flags).map V.int) := fun _ _ _ q _ => ⟨width, a, b, n, flags, rfl, pre, q⟩

def sp_op_ror : Sp := fun vs H Q _ => ∃ (width : Int) (a : Int) (b : Int) (n : Int) (flags : Int), vs = [.int width, .int a, .int b, .int n, .int flags] ∧ ((8 ≤ width ∧ width ≤ 64) ∧ (0 ≤ a ∧ a < 18446744073709551616) ∧ (0 ≤ b ∧ b < 18446744073709551616) ∧ (1 ≤ n ∧ n ≤ 63)) ∧ RetL ((m_op_ror width a b n flags).map V.int) H Q
theorem v_op_ror {width : Int} {a : Int} {b : Int} {n : Int} {flags : Int} {H : Hp} (pre : (8 ≤ width ∧ width ≤ 64) ∧ (0 ≤ a ∧ a < 18446744073709551616) ∧ (0 ≤ b ∧ b < 18446744073709551616) ∧ (1 ≤ n ∧ n ≤ 63)) : SpL sp_op_ror [.int width, .int a, .int b, .int n, .int flags] H ((m_op_ror width a b n flags).map V.int) := fun _ _ _ q _ => ⟨width, a, b, n, flags, rfl, pre, q⟩

def sp_with_carry_above : Sp := fun vs H Q _ => ∃ (width : Int) (a : Int) (flags : Int), vs = [.int width, .int a, .int flags] ∧ ((0 ≤ width ∧ width ≤ 64)) ∧ RetV (.int (m_with_carry_above width a flags)) H Q
theorem v_with_carry_above {width : Int} {a : Int} {flags : Int} {H : Hp} (pre : (0 ≤ width ∧ width ≤ 64)) : SpV sp_with_carry_above [.int width, .int a, .int flags] H (.int (m_with_carry_above width a flags)) := fun _ _ _ q _ => ⟨width, a, flags, rfl, pre, q⟩

def sp_op_rcl : Sp := fun vs H Q _ => ∃ (width : Int) (a : Int) (b : Int) (n : Int) (flags : Int), vs = [.int width, .int a, .int b, .int n, .int flags] ∧ ((8 ≤ width ∧ width ≤ 64) ∧ (0 ≤ a ∧ a < 18446744073709551616) ∧ (0 ≤ b ∧ b < 18446744073709551616) ∧ (1 ≤ n ∧ n ≤ 63)) ∧ RetL ((m_op_rcl width a b n flags).map V.int) H Q
theorem v_op_rcl {width : Int} {a : Int} {b : Int} {n : Int} {flags : Int} {H : Hp} (pre : (8 ≤ width ∧ width ≤ 64) ∧ (0 ≤ a ∧ a < 18446744073709551616) ∧ (0 ≤ b ∧ b < 18446744073709551616) ∧ (1 ≤ n ∧ n ≤ 63)) : SpL sp_op_rcl [.int width, .int a, .int b, .int n, .int flags] H ((m_op_rcl width a b n flags).map V.int) := fun _ _ _ q _ => ⟨width, a, b, n, flags, rfl, pre, q⟩

def sp_op_rcr : Sp := fun vs H Q _ => ∃ (width : Int) (a : Int) (b : Int) (n : Int) (flags : Int), vs = [.int width, .int a, .int b, .int n, .int flags] ∧ ((8 ≤ width ∧ width ≤ 64) ∧ (0 ≤ a ∧ a < 18446744073709551616) ∧ (0 ≤ b ∧ b < 18446744073709551616) ∧ (1 ≤ n ∧ n ≤ 63)) ∧ RetL ((m_op_rcr width a b n flags).map V.int) H Q
theorem v_op_rcr {width : Int} {a : Int} {b : Int} {n : Int} {flags : Int} {H : Hp} (pre : (8 ≤ width ∧ width ≤ 64) ∧ (0 ≤ a ∧ a < 18446744073709551616) ∧ (0 ≤ b ∧ b < 18446744073709551616) ∧ (1 ≤ n ∧ n ≤ 63)) : SpL sp_op_rcr [.int width, .int a, .int b, .int n, .int flags] H ((m_op_rcr width a b n flags).map V.int) := fun _ _ _ q _ => ⟨width, a, b, n, flags, rfl, pre, q⟩

def sp_double_answer : Sp := fun vs H Q _ => ∃ (width : Int) (a : Int) (lo : Int) (carry : Int) (n : Int) (flags : Int), vs = [.int width, .int a, .int lo, .int carry, .int n, .int flags] ∧ (1 ≤ width) ∧ RetL ((m_double_answer width a lo carry n flags).map V.int) H Q
theorem v_double_answer {width : Int} {a : Int} {lo : Int} {carry : Int} {n : Int} {flags : Int} {H : Hp} (pre : 1 ≤ width) : SpL sp_double_answer [.int width, .int a, .int lo, .int carry, .int n, .int flags] H ((m_double_answer width a lo carry n flags).map V.int) := fun _ _ _ q _ => ⟨width, a, lo, carry, n, flags, rfl, pre, q⟩

def sp_op_shld : Sp := fun vs H Q _ => ∃ (width : Int) (a : Int) (b : Int) (n : Int) (flags : Int), vs = [.int width, .int a, .int b, .int n, .int flags] ∧ ((8 ≤ width ∧ width ≤ 64) ∧ (0 ≤ a ∧ a < 18446744073709551616) ∧ (0 ≤ b ∧ b < 18446744073709551616) ∧ (1 ≤ n ∧ n ≤ 63)) ∧ RetL ((m_op_shld width a b n flags).map V.int) H Q
theorem v_op_shld {width : Int} {a : Int} {b : Int} {n : Int} {flags : Int} {H : Hp} (pre : (8 ≤ width ∧ width ≤ 64) ∧ (0 ≤ a ∧ a < 18446744073709551616) ∧ (0 ≤ b ∧ b < 18446744073709551616) ∧ (1 ≤ n ∧ n ≤ 63)) : SpL sp_op_shld [.int width, .int a, .int b, .int n, .int flags] H ((m_op_shld width a b n flags).map V.int) := fun _ _ _ q _ => ⟨width, a, b, n, flags, rfl, pre, q⟩

def sp_op_shrd : Sp := fun vs H Q _ => ∃ (width : Int) (a : Int) (b : Int) (n : Int) (flags : Int), vs = [.int width, .int a, .int b, .int n, .int flags] ∧ ((8 ≤ width ∧ width ≤ 64) ∧ (0 ≤ a ∧ a < 18446744073709551616) ∧ (0 ≤ b ∧ b < 18446744073709551616) ∧ (1 ≤ n ∧ n ≤ 63)) ∧ RetL ((m_op_shrd width a b n flags).map V.int) H Q
theorem v_op_shrd {width : Int} {a : Int} {b : Int} {n : Int} {flags : Int} {H : Hp} (pre : (8 ≤ width ∧ width ≤ 64) ∧ (0 ≤ a ∧ a < 18446744073709551616) ∧ (0 ≤ b ∧ b < 18446744073709551616) ∧ (1 ≤ n ∧ n ≤ 63)) : SpL sp_op_shrd [.int width, .int a, .int b, .int n, .int flags] H ((m_op_shrd width a b n flags).map V.int) := fun _ _ _ q _ => ⟨width, a, b, n, flags, rfl, pre, q⟩

def sp_places_to_go : Sp := fun vs H Q _ => ∃ (op : Int) (width : Int) (b : Int) (c : Int), vs = [.int op, .int width, .int b, .int c] ∧ RetV (.int (m_places_to_go op width b c)) H Q
theorem v_places_to_go {op : Int} {width : Int} {b : Int} {c : Int} {H : Hp} : SpV sp_places_to_go [.int op, .int width, .int b, .int c] H (.int (m_places_to_go op width b c)) := fun _ _ _ q _ => ⟨op, width, b, c, rfl, q⟩

def sp_run_shift : Sp := fun vs H Q _ => ∃ (op : Int) (width : Int) (a : Int) (b : Int) (c : Int) (flags : Int), vs = [.int op, .int width, .int a, .int b, .int c, .int flags] ∧ ((13 ≤ op ∧ op ≤ 21) ∧ (8 ≤ width ∧ width ≤ 64) ∧ (0 ≤ a ∧ a < 18446744073709551616) ∧ (0 ≤ b ∧ b < 18446744073709551616) ∧ (0 ≤ c ∧ c < 18446744073709551616) ∧ (width = 8 ∨ width = 16 ∨ width = 32 ∨ width = 64)) ∧ RetL ((m_run_shift op width a b c flags).map V.int) H Q
theorem v_run_shift {op : Int} {width : Int} {a : Int} {b : Int} {c : Int} {flags : Int} {H : Hp} (pre : (13 ≤ op ∧ op ≤ 21) ∧ (8 ≤ width ∧ width ≤ 64) ∧ (0 ≤ a ∧ a < 18446744073709551616) ∧ (0 ≤ b ∧ b < 18446744073709551616) ∧ (0 ≤ c ∧ c < 18446744073709551616) ∧ (width = 8 ∨ width = 16 ∨ width = 32 ∨ width = 64)) : SpL sp_run_shift [.int op, .int width, .int a, .int b, .int c, .int flags] H ((m_run_shift op width a b c flags).map V.int) := fun _ _ _ q _ => ⟨op, width, a, b, c, flags, rfl, pre, q⟩

def sp_total : Sp := fun vs H Q _ => ∃ (width : Int) (a : Int) (b : Int) (k : Int), vs = [.int width, .int a, .int b, .int k] ∧ (0 ≤ width ∧ width ≤ 200) ∧ RetV (.int (m_total width a b k)) H Q
theorem v_total {width : Int} {a : Int} {b : Int} {k : Int} {H : Hp} (pre : 0 ≤ width ∧ width ≤ 200) : SpV sp_total [.int width, .int a, .int b, .int k] H (.int (m_total width a b k)) := fun _ _ _ q _ => ⟨width, a, b, k, rfl, pre, q⟩

def sp_difference : Sp := fun vs H Q _ => ∃ (width : Int) (a : Int) (b : Int) (k : Int), vs = [.int width, .int a, .int b, .int k] ∧ (0 ≤ width ∧ width ≤ 200) ∧ RetV (.int (m_difference width a b k)) H Q
theorem v_difference {width : Int} {a : Int} {b : Int} {k : Int} {H : Hp} (pre : 0 ≤ width ∧ width ≤ 200) : SpV sp_difference [.int width, .int a, .int b, .int k] H (.int (m_difference width a b k)) := fun _ _ _ q _ => ⟨width, a, b, k, rfl, pre, q⟩

def sp_total_flags : Sp := fun vs H Q _ => ∃ (width : Int) (a : Int) (b : Int) (k : Int) (flags : Int), vs = [.int width, .int a, .int b, .int k, .int flags] ∧ (1 ≤ width ∧ width ≤ 200) ∧ RetV (.int (m_total_flags width a b k flags)) H Q
theorem v_total_flags {width : Int} {a : Int} {b : Int} {k : Int} {flags : Int} {H : Hp} (pre : 1 ≤ width ∧ width ≤ 200) : SpV sp_total_flags [.int width, .int a, .int b, .int k, .int flags] H (.int (m_total_flags width a b k flags)) := fun _ _ _ q _ => ⟨width, a, b, k, flags, rfl, pre, q⟩

def sp_difference_flags : Sp := fun vs H Q _ => ∃ (width : Int) (a : Int) (b : Int) (k : Int) (flags : Int), vs = [.int width, .int a, .int b, .int k, .int flags] ∧ (1 ≤ width ∧ width ≤ 200) ∧ RetV (.int (m_difference_flags width a b k flags)) H Q
theorem v_difference_flags {width : Int} {a : Int} {b : Int} {k : Int} {flags : Int} {H : Hp} (pre : 1 ≤ width ∧ width ≤ 200) : SpV sp_difference_flags [.int width, .int a, .int b, .int k, .int flags] H (.int (m_difference_flags width a b k flags)) := fun _ _ _ q _ => ⟨width, a, b, k, flags, rfl, pre, q⟩

def sp_with_carry_of : Sp := fun vs H Q _ => ∃ (flags : Int) (before : Int), vs = [.int flags, .int before] ∧ RetV (.int (m_with_carry_of flags before)) H Q
theorem v_with_carry_of {flags : Int} {before : Int} {H : Hp} : SpV sp_with_carry_of [.int flags, .int before] H (.int (m_with_carry_of flags before)) := fun _ _ _ q _ => ⟨flags, before, rfl, q⟩

def sp_op_add : Sp := fun vs H Q _ => ∃ (width : Int) (a : Int) (b : Int) (c : Int) (flags : Int), vs = [.int width, .int a, .int b, .int c, .int flags] ∧ ((8 ≤ width ∧ width ≤ 64) ∧ (0 ≤ a ∧ a < 18446744073709551616) ∧ (0 ≤ b ∧ b < 18446744073709551616) ∧ (0 ≤ c ∧ c < 18446744073709551616) ∧ (width = 8 ∨ width = 16 ∨ width = 32 ∨ width = 64)) ∧ RetL ((m_op_add width a b c flags).map V.int) H Q
theorem v_op_add {width : Int} {a : Int} {b : Int} {c : Int} {flags : Int} {H : Hp} (pre : (8 ≤ width ∧ width ≤ 64) ∧ (0 ≤ a ∧ a < 18446744073709551616) ∧ (0 ≤ b ∧ b < 18446744073709551616) ∧ (0 ≤ c ∧ c < 18446744073709551616) ∧ (width = 8 ∨ width = 16 ∨ width = 32 ∨ width = 64)) : SpL sp_op_add [.int width, .int a, .int b, .int c, .int flags] H ((m_op_add width a b c flags).map V.int) := fun _ _ _ q _ => ⟨width, a, b, c, flags, rfl, pre, q⟩

def sp_op_adc : Sp := fun vs H Q _ => ∃ (width : Int) (a : Int) (b : Int) (c : Int) (flags : Int), vs = [.int width, .int a, .int b, .int c, .int flags] ∧ ((8 ≤ width ∧ width ≤ 64) ∧ (0 ≤ a ∧ a < 18446744073709551616) ∧ (0 ≤ b ∧ b < 18446744073709551616) ∧ (0 ≤ c ∧ c < 18446744073709551616) ∧ (width = 8 ∨ width = 16 ∨ width = 32 ∨ width = 64)) ∧ RetL ((m_op_adc width a b c flags).map V.int) H Q
theorem v_op_adc {width : Int} {a : Int} {b : Int} {c : Int} {flags : Int} {H : Hp} (pre : (8 ≤ width ∧ width ≤ 64) ∧ (0 ≤ a ∧ a < 18446744073709551616) ∧ (0 ≤ b ∧ b < 18446744073709551616) ∧ (0 ≤ c ∧ c < 18446744073709551616) ∧ (width = 8 ∨ width = 16 ∨ width = 32 ∨ width = 64)) : SpL sp_op_adc [.int width, .int a, .int b, .int c, .int flags] H ((m_op_adc width a b c flags).map V.int) := fun _ _ _ q _ => ⟨width, a, b, c, flags, rfl, pre, q⟩

def sp_op_sub : Sp := fun vs H Q _ => ∃ (width : Int) (a : Int) (b : Int) (c : Int) (flags : Int), vs = [.int width, .int a, .int b, .int c, .int flags] ∧ ((8 ≤ width ∧ width ≤ 64) ∧ (0 ≤ a ∧ a < 18446744073709551616) ∧ (0 ≤ b ∧ b < 18446744073709551616) ∧ (0 ≤ c ∧ c < 18446744073709551616) ∧ (width = 8 ∨ width = 16 ∨ width = 32 ∨ width = 64)) ∧ RetL ((m_op_sub width a b c flags).map V.int) H Q
theorem v_op_sub {width : Int} {a : Int} {b : Int} {c : Int} {flags : Int} {H : Hp} (pre : (8 ≤ width ∧ width ≤ 64) ∧ (0 ≤ a ∧ a < 18446744073709551616) ∧ (0 ≤ b ∧ b < 18446744073709551616) ∧ (0 ≤ c ∧ c < 18446744073709551616) ∧ (width = 8 ∨ width = 16 ∨ width = 32 ∨ width = 64)) : SpL sp_op_sub [.int width, .int a, .int b, .int c, .int flags] H ((m_op_sub width a b c flags).map V.int) := fun _ _ _ q _ => ⟨width, a, b, c, flags, rfl, pre, q⟩

def sp_op_sbb : Sp := fun vs H Q _ => ∃ (width : Int) (a : Int) (b : Int) (c : Int) (flags : Int), vs = [.int width, .int a, .int b, .int c, .int flags] ∧ ((8 ≤ width ∧ width ≤ 64) ∧ (0 ≤ a ∧ a < 18446744073709551616) ∧ (0 ≤ b ∧ b < 18446744073709551616) ∧ (0 ≤ c ∧ c < 18446744073709551616) ∧ (width = 8 ∨ width = 16 ∨ width = 32 ∨ width = 64)) ∧ RetL ((m_op_sbb width a b c flags).map V.int) H Q
theorem v_op_sbb {width : Int} {a : Int} {b : Int} {c : Int} {flags : Int} {H : Hp} (pre : (8 ≤ width ∧ width ≤ 64) ∧ (0 ≤ a ∧ a < 18446744073709551616) ∧ (0 ≤ b ∧ b < 18446744073709551616) ∧ (0 ≤ c ∧ c < 18446744073709551616) ∧ (width = 8 ∨ width = 16 ∨ width = 32 ∨ width = 64)) : SpL sp_op_sbb [.int width, .int a, .int b, .int c, .int flags] H ((m_op_sbb width a b c flags).map V.int) := fun _ _ _ q _ => ⟨width, a, b, c, flags, rfl, pre, q⟩

def sp_op_cmp : Sp := fun vs H Q _ => ∃ (width : Int) (a : Int) (b : Int) (c : Int) (flags : Int), vs = [.int width, .int a, .int b, .int c, .int flags] ∧ ((8 ≤ width ∧ width ≤ 64) ∧ (0 ≤ a ∧ a < 18446744073709551616) ∧ (0 ≤ b ∧ b < 18446744073709551616) ∧ (0 ≤ c ∧ c < 18446744073709551616) ∧ (width = 8 ∨ width = 16 ∨ width = 32 ∨ width = 64)) ∧ RetL ((m_op_cmp width a b c flags).map V.int) H Q
theorem v_op_cmp {width : Int} {a : Int} {b : Int} {c : Int} {flags : Int} {H : Hp} (pre : (8 ≤ width ∧ width ≤ 64) ∧ (0 ≤ a ∧ a < 18446744073709551616) ∧ (0 ≤ b ∧ b < 18446744073709551616) ∧ (0 ≤ c ∧ c < 18446744073709551616) ∧ (width = 8 ∨ width = 16 ∨ width = 32 ∨ width = 64)) : SpL sp_op_cmp [.int width, .int a, .int b, .int c, .int flags] H ((m_op_cmp width a b c flags).map V.int) := fun _ _ _ q _ => ⟨width, a, b, c, flags, rfl, pre, q⟩

def sp_op_neg : Sp := fun vs H Q _ => ∃ (width : Int) (a : Int) (b : Int) (c : Int) (flags : Int), vs = [.int width, .int a, .int b, .int c, .int flags] ∧ ((8 ≤ width ∧ width ≤ 64) ∧ (0 ≤ a ∧ a < 18446744073709551616) ∧ (0 ≤ b ∧ b < 18446744073709551616) ∧ (0 ≤ c ∧ c < 18446744073709551616) ∧ (width = 8 ∨ width = 16 ∨ width = 32 ∨ width = 64)) ∧ RetL ((m_op_neg width a b c flags).map V.int) H Q
theorem v_op_neg {width : Int} {a : Int} {b : Int} {c : Int} {flags : Int} {H : Hp} (pre : (8 ≤ width ∧ width ≤ 64) ∧ (0 ≤ a ∧ a < 18446744073709551616) ∧ (0 ≤ b ∧ b < 18446744073709551616) ∧ (0 ≤ c ∧ c < 18446744073709551616) ∧ (width = 8 ∨ width = 16 ∨ width = 32 ∨ width = 64)) : SpL sp_op_neg [.int width, .int a, .int b, .int c, .int flags] H ((m_op_neg width a b c flags).map V.int) := fun _ _ _ q _ => ⟨width, a, b, c, flags, rfl, pre, q⟩

def sp_op_inc : Sp := fun vs H Q _ => ∃ (width : Int) (a : Int) (b : Int) (c : Int) (flags : Int), vs = [.int width, .int a, .int b, .int c, .int flags] ∧ ((8 ≤ width ∧ width ≤ 64) ∧ (0 ≤ a ∧ a < 18446744073709551616) ∧ (0 ≤ b ∧ b < 18446744073709551616) ∧ (0 ≤ c ∧ c < 18446744073709551616) ∧ (width = 8 ∨ width = 16 ∨ width = 32 ∨ width = 64)) ∧ RetL ((m_op_inc width a b c flags).map V.int) H Q
theorem v_op_inc {width : Int} {a : Int} {b : Int} {c : Int} {flags : Int} {H : Hp} (pre : (8 ≤ width ∧ width ≤ 64) ∧ (0 ≤ a ∧ a < 18446744073709551616) ∧ (0 ≤ b ∧ b < 18446744073709551616) ∧ (0 ≤ c ∧ c < 18446744073709551616) ∧ (width = 8 ∨ width = 16 ∨ width = 32 ∨ width = 64)) : SpL sp_op_inc [.int width, .int a, .int b, .int c, .int flags] H ((m_op_inc width a b c flags).map V.int) := fun _ _ _ q _ => ⟨width, a, b, c, flags, rfl, pre, q⟩

def sp_op_dec : Sp := fun vs H Q _ => ∃ (width : Int) (a : Int) (b : Int) (c : Int) (flags : Int), vs = [.int width, .int a, .int b, .int c, .int flags] ∧ ((8 ≤ width ∧ width ≤ 64) ∧ (0 ≤ a ∧ a < 18446744073709551616) ∧ (0 ≤ b ∧ b < 18446744073709551616) ∧ (0 ≤ c ∧ c < 18446744073709551616) ∧ (width = 8 ∨ width = 16 ∨ width = 32 ∨ width = 64)) ∧ RetL ((m_op_dec width a b c flags).map V.int) H Q
theorem v_op_dec {width : Int} {a : Int} {b : Int} {c : Int} {flags : Int} {H : Hp} (pre : (8 ≤ width ∧ width ≤ 64) ∧ (0 ≤ a ∧ a < 18446744073709551616) ∧ (0 ≤ b ∧ b < 18446744073709551616) ∧ (0 ≤ c ∧ c < 18446744073709551616) ∧ (width = 8 ∨ width = 16 ∨ width = 32 ∨ width = 64)) : SpL sp_op_dec [.int width, .int a, .int b, .int c, .int flags] H ((m_op_dec width a b c flags).map V.int) := fun _ _ _ q _ => ⟨width, a, b, c, flags, rfl, pre, q⟩

def sp_op_xadd : Sp := fun vs H Q _ => ∃ (width : Int) (a : Int) (b : Int) (c : Int) (flags : Int), vs = [.int width, .int a, .int b, .int c, .int flags] ∧ ((8 ≤ width ∧ width ≤ 64) ∧ (0 ≤ a ∧ a < 18446744073709551616) ∧ (0 ≤ b ∧ b < 18446744073709551616) ∧ (0 ≤ c ∧ c < 18446744073709551616) ∧ (width = 8 ∨ width = 16 ∨ width = 32 ∨ width = 64)) ∧ RetL ((m_op_xadd width a b c flags).map V.int) H Q
theorem v_op_xadd {width : Int} {a : Int} {b : Int} {c : Int} {flags : Int} {H : Hp} (pre : (8 ≤ width ∧ width ≤ 64) ∧ (0 ≤ a ∧ a < 18446744073709551616) ∧ (0 ≤ b ∧ b < 18446744073709551616) ∧ (0 ≤ c ∧ c < 18446744073709551616) ∧ (width = 8 ∨ width = 16 ∨ width = 32 ∨ width = 64)) : SpL sp_op_xadd [.int width, .int a, .int b, .int c, .int flags] H ((m_op_xadd width a b c flags).map V.int) := fun _ _ _ q _ => ⟨width, a, b, c, flags, rfl, pre, q⟩

def sp_op_cmpxchg : Sp := fun vs H Q _ => ∃ (width : Int) (a : Int) (b : Int) (c : Int) (flags : Int), vs = [.int width, .int a, .int b, .int c, .int flags] ∧ ((8 ≤ width ∧ width ≤ 64) ∧ (0 ≤ a ∧ a < 18446744073709551616) ∧ (0 ≤ b ∧ b < 18446744073709551616) ∧ (0 ≤ c ∧ c < 18446744073709551616) ∧ (width = 8 ∨ width = 16 ∨ width = 32 ∨ width = 64)) ∧ RetL ((m_op_cmpxchg width a b c flags).map V.int) H Q
theorem v_op_cmpxchg {width : Int} {a : Int} {b : Int} {c : Int} {flags : Int} {H : Hp} (pre : (8 ≤ width ∧ width ≤ 64) ∧ (0 ≤ a ∧ a < 18446744073709551616) ∧ (0 ≤ b ∧ b < 18446744073709551616) ∧ (0 ≤ c ∧ c < 18446744073709551616) ∧ (width = 8 ∨ width = 16 ∨ width = 32 ∨ width = 64)) : SpL sp_op_cmpxchg [.int width, .int a, .int b, .int c, .int flags] H ((m_op_cmpxchg width a b c flags).map V.int) := fun _ _ _ q _ => ⟨width, a, b, c, flags, rfl, pre, q⟩

def sp_run_sum : Sp := fun vs H Q _ => ∃ (op : Int) (width : Int) (a : Int) (b : Int) (c : Int) (flags : Int), vs = [.int op, .int width, .int a, .int b, .int c, .int flags] ∧ ((0 ≤ op ∧ (op ≤ 7 ∨ op = 33 ∨ op = 34)) ∧ (8 ≤ width ∧ width ≤ 64) ∧ (0 ≤ a ∧ a < 18446744073709551616) ∧ (0 ≤ b ∧ b < 18446744073709551616) ∧ (0 ≤ c ∧ c < 18446744073709551616) ∧ (width = 8 ∨ width = 16 ∨ width = 32 ∨ width = 64)) ∧ RetL ((m_run_sum op width a b c flags).map V.int) H Q
theorem v_run_sum {op : Int} {width : Int} {a : Int} {b : Int} {c : Int} {flags : Int} {H : Hp} (pre : (0 ≤ op ∧ (op ≤ 7 ∨ op = 33 ∨ op = 34)) ∧ (8 ≤ width ∧ width ≤ 64) ∧ (0 ≤ a ∧ a < 18446744073709551616) ∧ (0 ≤ b ∧ b < 18446744073709551616) ∧ (0 ≤ c ∧ c < 18446744073709551616) ∧ (width = 8 ∨ width = 16 ∨ width = 32 ∨ width = 64)) : SpL sp_run_sum [.int op, .int width, .int a, .int b, .int c, .int flags] H ((m_run_sum op width a b c flags).map V.int) := fun _ _ _ q _ => ⟨op, width, a, b, c, flags, rfl, pre, q⟩

def sp_widths_of : Sp := fun vs H Q _ => ∃ (op : Int), vs = [.int op] ∧ RetU ((m_widths_of op).map V.int) H Q
theorem v_widths_of {op : Int} {H : Hp} : SpU sp_widths_of [.int op] H ((m_widths_of op).map V.int) := fun _ _ _ q _ => ⟨op, rfl, q⟩

def sp_run : Sp := fun vs H Q _ => ∃ (op : Int) (width : Int) (a : Int) (b : Int) (c : Int) (flags : Int), vs = [.int op, .int width, .int a, .int b, .int c, .int flags] ∧ ((0 ≤ op ∧ op ≤ 43) ∧ (8 ≤ width ∧ width ≤ 64) ∧ (0 ≤ a ∧ a < 18446744073709551616) ∧ (0 ≤ b ∧ b < 18446744073709551616) ∧ (0 ≤ c ∧ c < 18446744073709551616) ∧ (width = 8 ∨ width = 16 ∨ width = 32 ∨ width = 64)) ∧ RetL ((m_run op width a b c flags).map V.int) H Q
theorem v_run {op : Int} {width : Int} {a : Int} {b : Int} {c : Int} {flags : Int} {H : Hp} (pre : (0 ≤ op ∧ op ≤ 43) ∧ (8 ≤ width ∧ width ≤ 64) ∧ (0 ≤ a ∧ a < 18446744073709551616) ∧ (0 ≤ b ∧ b < 18446744073709551616) ∧ (0 ≤ c ∧ c < 18446744073709551616) ∧ (width = 8 ∨ width = 16 ∨ width = 32 ∨ width = 64)) : SpL sp_run [.int op, .int width, .int a, .int b, .int c, .int flags] H ((m_run op width a b c flags).map V.int) := fun _ _ _ q _ => ⟨op, width, a, b, c, flags, rfl, pre, q⟩

def sp_do : Sp := fun vs H Q _ => ∃ (op : Int) (width : Int) (a : Int) (b : Int) (c : Int) (flags : Int), vs = [.int op, .int width, .int a, .int b, .int c, .int flags] ∧ (0 ≤ op ∧ 0 ≤ a ∧ 0 ≤ b ∧ 0 ≤ c) ∧ RetL ((m_do op width a b c flags).map V.int) H Q
theorem v_do {op : Int} {width : Int} {a : Int} {b : Int} {c : Int} {flags : Int} {H : Hp} (pre : 0 ≤ op ∧ 0 ≤ a ∧ 0 ≤ b ∧ 0 ≤ c) : SpL sp_do [.int op, .int width, .int a, .int b, .int c, .int flags] H ((m_do op width a b c flags).map V.int) := fun _ _ _ q _ => ⟨op, width, a, b, c, flags, rfl, pre, q⟩

section
variable {P : Program} {w : World} {K : PySem.W.Frag} {mg : Str → Option Value} {base : Heap}
theorem ok_greatest {f : Addr} {fd : FuncData} (F : FnP K "greatest" s_greatest f fd)  : FnOk P w K mg base CX0 1 f fd ["width"] sp_greatest := by
  refine FunD.ok F sc_greatest (fun vs H Q E h => ?_) (fun cdv A outer s H vs Q E hr h => ?_)
  · obtain ⟨_, rfl, _⟩ := h
    rfl
  · obtain ⟨width, rfl, pre, hq⟩ := h
    exact cr_fin (
        cr_ret (ce_sub (ce_shl ce_i (ce_v 0 (pv 0) rfl) (cshl 66 (by omega) (by omega) (by omega))) ce_i) hq)

theorem has_greatest {f : Addr} {fd : FuncData} (F : FnP K "greatest" s_greatest f fd) (g : mg "greatest" = some (.ref f))  : Has P w K mg base "greatest" 1 sp_greatest :=
  ⟨f, fd, _, ok_greatest F , g, F.kp, FunD.bindsN F fun _ _ _ _ _ _ us hl => match us, hl with | [_], _ => rfl⟩

theorem ok_bit {f : Addr} {fd : FuncData} (F : FnP K "bit" s_bit f fd)  : FnOk P w K mg base CX0 1 f fd ["number", "place"] sp_bit := by
  refine FunD.ok F sc_bit (fun vs H Q E h => ?_) (fun cdv A outer s H vs Q E hr h => ?_)
  · obtain ⟨_, _, rfl, _⟩ := h
    rfl
  · obtain ⟨number, place, rfl, pre, hq⟩ := h
    exact cr_fin (
        cr_ret (ce_and (ce_shr (ce_v 0 (pv 0) rfl) (ce_v 1 (pv 1) rfl) (by omega)) ce_i) hq)

theorem has_bit {f : Addr} {fd : FuncData} (F : FnP K "bit" s_bit f fd) (g : mg "bit" = some (.ref f))  : Has P w K mg base "bit" 1 sp_bit :=
  ⟨f, fd, _, ok_bit F , g, F.kp, FunD.bindsN F fun _ _ _ _ _ _ us hl => match us, hl with | [_, _], _ => rfl⟩

theorem ok_signed {f : Addr} {fd : FuncData} (F : FnP K "signed" s_signed f fd) (h_bit : Has P w K mg base "bit" 1 sp_bit) : FnOk P w K mg base CX0 2 f fd ["number", "width"] sp_signed := by
  refine FunD.ok F sc_signed (fun vs H Q E h => ?_) (fun cdv A outer s H vs Q E hr h => ?_)
  · obtain ⟨_, _, rfl, _⟩ := h
    rfl
  · obtain ⟨number, width, rfl, pre, hq⟩ := h
    exact cr_fin (
        cr_if (ct_cmp op_eq (ce_call h_bit (hr.mono (by decide)) rfl (ca_1 (ce_v 0 (pv 0) rfl) (ca_1 (ce_sub (ce_v 1 (pv 1) rfl) ce_i) ca_0)) (v_bit (by omega)) (by decide)) ce_i rv_ieq (nomark _)) (fun hp1 =>
          cr_ret (ce_sub (ce_v 0 (pv 0) rfl) (ce_shl ce_i (ce_v 1 (pv 1) rfl) (cshl 66 (by omega) (by omega) (by omega)))) (retv_t hp1 hq)) fun hp1 =>
        cr_ret (ce_v 0 (pv 0) rfl) (retv_f hp1 hq))

theorem has_signed {f : Addr} {fd : FuncData} (F : FnP K "signed" s_signed f fd) (g : mg "signed" = some (.ref f)) (h_bit : Has P w K mg base "bit" 1 sp_bit) : Has P w K mg base "signed" 2 sp_signed :=
  ⟨f, fd, _, ok_signed F h_bit, g, F.kp, FunD.bindsN F fun _ _ _ _ _ _ us hl => match us, hl with | [_, _], _ => rfl⟩

theorem ok_fits_signed {f : Addr} {fd : FuncData} (F : FnP K "fits_signed" s_fits_signed f fd)  : FnOk P w K mg base CX0 1 f fd ["number", "width"] sp_fits_signed := by
  refine FunD.ok F sc_fits_signed (fun vs H Q E h => ?_) (fun cdv A outer s H vs Q E hr h => ?_)
  · obtain ⟨_, _, rfl, _⟩ := h
    rfl
  · obtain ⟨number, width, rfl, pre, hq⟩ := h
    exact cr_fin (
        cr_set (ce_shl ce_i (ce_sub (ce_v 1 (pv 1) rfl) ce_i) (cshl 66 (by omega) (by omega) (by omega))) (fun _ h => ps_set (i := 2) sc_fits_signed.nd rfl (Or.inl rfl) h) <|
        cr_ret (ce_chain op_le op_lt (ce_neg (ce_v 2 (pv 2) rfl)) (ce_v 0 (pv 0) rfl) (ce_v 2 (pv 2) rfl) rv_I0 rv_I0) hq)

theorem has_fits_signed {f : Addr} {fd : FuncData} (F : FnP K "fits_signed" s_fits_signed f fd) (g : mg "fits_signed" = some (.ref f))  : Has P w K mg base "fits_signed" 1 sp_fits_signed :=
  ⟨f, fd, _, ok_fits_signed F , g, F.kp, FunD.bindsN F fun _ _ _ _ _ _ us hl => match us, hl with | [_, _], _ => rfl⟩

theorem ok_carry_of {f : Addr} {fd : FuncData} (F : FnP K "carry_of" s_carry_of f fd) (c_CARRY : Cst mg "CARRY" 1) : FnOk P w K mg base CX0 1 f fd ["flags"] sp_carry_of := by
  refine FunD.ok F sc_carry_of (fun vs H Q E h => ?_) (fun cdv A outer s H vs Q E hr h => ?_)
  · obtain ⟨_, rfl, _⟩ := h
    rfl
  · obtain ⟨flags, rfl, hq⟩ := h
    exact cr_fin (
        cr_ret (ce_and (ce_v 0 (pv 0) rfl) (ce_g c_CARRY rfl (by decide))) hq)

theorem has_carry_of {f : Addr} {fd : FuncData} (F : FnP K "carry_of" s_carry_of f fd) (g : mg "carry_of" = some (.ref f)) (c_CARRY : Cst mg "CARRY" 1) : Has P w K mg base "carry_of" 1 sp_carry_of :=
  ⟨f, fd, _, ok_carry_of F c_CARRY, g, F.kp, FunD.bindsN F fun _ _ _ _ _ _ us hl => match us, hl with | [_], _ => rfl⟩

theorem ok_put {f : Addr} {fd : FuncData} (F : FnP K "put" s_put f fd)  : FnOk P w K mg base CX0 1 f fd ["flags", "mark", "holds"] sp_put := by
  refine FunD.ok F sc_put (fun vs H Q E h => ?_) (fun cdv A outer s H vs Q E hr h => ?_)
  · obtain ⟨_, _, _, rfl, _⟩ := h
    rfl
  · obtain ⟨flags, mark, holds, rfl, hq⟩ := h
    exact cr_fin (
        cr_if (ct_val (ce_v 2 (pv 2) rfl)) (fun hp1 =>
          cr_ret (ce_or (ce_v 0 (pv 0) rfl) (ce_v 1 (pv 1) rfl)) (retv_t hp1 hq)) fun hp1 =>
        cr_ret (ce_and (ce_v 0 (pv 0) rfl) (ce_inv (ce_v 1 (pv 1) rfl))) (retv_f hp1 hq))

theorem has_put {f : Addr} {fd : FuncData} (F : FnP K "put" s_put f fd) (g : mg "put" = some (.ref f))  : Has P w K mg base "put" 1 sp_put :=
  ⟨f, fd, _, ok_put F , g, F.kp, FunD.bindsN F fun _ _ _ _ _ _ us hl => match us, hl with | [_, _, _], _ => rfl⟩

theorem ok_is_even_parity {f : Addr} {fd : FuncData} (F : FnP K "is_even_parity" s_is_even_parity f fd) (h_bit : Has P w K mg base "bit" 1 sp_bit) (n_range : mg "range" = none) : FnOk P w K mg base CX0 2 f fd ["number"] sp_is_even_parity := by
  refine FunD.ok F sc_is_even_parity (fun vs H Q E h => ?_) (fun cdv A outer s H vs Q E hr h => ?_)
  · obtain ⟨_, rfl, _⟩ := h
    rfl
  · obtain ⟨number, rfl, hq⟩ := h
    obtain ⟨fb, fdb, psb, Gb, gb, kb, bb⟩ := h_bit
    refine ⟨_, PSs.nox (pss_cons (ps_set (i := 1) sc_is_even_parity.nd rfl (Or.inl rfl) pe_int) (pss_cons (ps_for PassesOwn.never rfl (pi_range1 rfl n_range (pa_cons pe_int pa_nil)) (pg_name (i := 2) sc_is_even_parity.nd rfl (Or.inl rfl))
      (pss_one (ps_set (i := 1) sc_is_even_parity.nd rfl (Or.inl rfl) (pe_op op_add (pv 1) (pe_call Gb (hr.mono (by decide)) rfl gb kb bb .nil pass0 (pa_cons (pv 0) (pa_cons (pv 2) pa_nil)))))))
      (pss_one (ps_ret (pe_cmpR op_eq (pe_op op_mod (pv 1) pe_int) pe_int (nomark _)))))), ?_⟩
    refine q_asg ev_c fun H1 e1 => ?_
    refine q_forR1 (ea_cons ev_c ea_nil) (by decide) (fun i σ' H' => Ex H H' ∧ ∃ v, σ' = [some (.int number), some (.int (m_ones number i)), v]) (fun H2 e2 => ⟨e1.trans e2, none, rfl⟩) ?_ ?_
    · rintro i σ' H' hi ⟨e3, v, rfl⟩
      exact s_asg (ev_op (ev_var rfl) (ev_call (vs := [.int number, .int (i : Int)]) (ea_cons (ev_var rfl) (ea_cons (ev_var rfl) ea_nil)) (v_bit (Int.natCast_nonneg i))) rv_I0) fun H4 e4 => ⟨e3.trans e4, some (.int (i : Int)), rfl⟩
    · rintro σ' H' ⟨e3, v, rfl⟩
      exact s_ret (ev_op (ev_op (ev_var rfl) ev_c (rv_I (by decide))) ev_c rv_ieq) fun H4 e4 => hq H4 (e3.trans e4)

theorem has_is_even_parity {f : Addr} {fd : FuncData} (F : FnP K "is_even_parity" s_is_even_parity f fd) (g : mg "is_even_parity" = some (.ref f)) (h_bit : Has P w K mg base "bit" 1 sp_bit) (n_range : mg "range" = none) : Has P w K mg base "is_even_parity" 2 sp_is_even_parity :=
  ⟨f, fd, _, ok_is_even_parity F h_bit n_range, g, F.kp, FunD.bindsN F fun _ _ _ _ _ _ us hl => match us, hl with | [_], _ => rfl⟩

theorem ok_show {f : Addr} {fd : FuncData} (F : FnP K "show" s_show f fd) (h_bit : Has P w K mg base "bit" 1 sp_bit) (h_put : Has P w K mg base "put" 1 sp_put) (h_is_even_parity : Has P w K mg base "is_even_parity" 2 sp_is_even_parity) (c_PARITY : Cst mg "PARITY" 4) (c_ZERO : Cst mg "ZERO" 64) (c_SIGN : Cst mg "SIGN" 128) : FnOk P w K mg base CX0 3 f fd ["flags", "number", "width"] sp_show := by
  refine FunD.ok F sc_show (fun vs H Q E h => ?_) (fun cdv A outer s H vs Q E hr h => ?_)
  · obtain ⟨_, _, _, rfl, _⟩ := h
    rfl
  · obtain ⟨flags, number, width, rfl, pre, hq⟩ := h
    exact cr_fin (
        cr_set (ce_call h_put (hr.mono (by decide)) rfl (ca_1 (ce_v 0 (pv 0) rfl) (ca_1 (ce_g c_ZERO rfl (by decide)) (ca_1 (ce_cmp op_eq (ce_v 1 (pv 1) rfl) ce_i rv_ieq (nomark _)) ca_0))) v_put (by decide)) (fun _ h => ps_set (i := 3) sc_show.nd rfl (Or.inl rfl) h) <|
        cr_set (ce_call h_put (hr.mono (by decide)) rfl (ca_1 (ce_v 3 (pv 3) rfl) (ca_1 (ce_g c_SIGN rfl (by decide)) (ca_1 (ce_cmp op_eq (ce_call h_bit (hr.mono (by decide)) rfl (ca_1 (ce_v 1 (pv 1) rfl) (ca_1 (ce_sub (ce_v 2 (pv 2) rfl) ce_i) ca_0)) (v_bit (by omega)) (by decide)) ce_i rv_ieq (nomark _)) ca_0))) v_put (by decide)) (fun _ h => ps_set (i := 3) sc_show.nd rfl (Or.inl rfl) h) <|
        cr_ret (ce_call h_put (hr.mono (by decide)) rfl (ca_1 (ce_v 3 (pv 3) rfl) (ca_1 (ce_g c_PARITY rfl (by decide)) (ca_1 (ce_call h_is_even_parity (hr.mono (by decide)) rfl (ca_1 (ce_v 1 (pv 1) rfl) ca_0) v_is_even_parity (by decide)) ca_0))) v_put (by decide)) hq)

theorem has_show {f : Addr} {fd : FuncData} (F : FnP K "show" s_show f fd) (g : mg "show" = some (.ref f)) (h_bit : Has P w K mg base "bit" 1 sp_bit) (h_put : Has P w K mg base "put" 1 sp_put) (h_is_even_parity : Has P w K mg base "is_even_parity" 2 sp_is_even_parity) (c_PARITY : Cst mg "PARITY" 4) (c_ZERO : Cst mg "ZERO" 64) (c_SIGN : Cst mg "SIGN" 128) : Has P w K mg base "show" 3 sp_show :=
  ⟨f, fd, _, ok_show F h_bit h_put h_is_even_parity c_PARITY c_ZERO c_SIGN, g, F.kp, FunD.bindsN F fun _ _ _ _ _ _ us hl => match us, hl with | [_, _, _], _ => rfl⟩

theorem ok_answer {f : Addr} {fd : FuncData} (F : FnP K "answer" s_answer f fd)  : FnOk P w K mg base CX0 1 f fd ["lo", "hi", "flags"] sp_answer := by
  refine FunD.ok F sc_answer (fun vs H Q E h => ?_) (fun cdv A outer s H vs Q E hr h => ?_)
  · obtain ⟨_, _, _, rfl, _⟩ := h
    rfl
  · obtain ⟨lo, hi, flags, rfl, hq⟩ := h
    exact cr_fin (
        cr_retL (cl_lst (ca_1 ce_i (ca_1 (ce_v 0 (pv 0) rfl) (ca_1 (ce_v 1 (pv 1) rfl) (ca_1 (ce_v 2 (pv 2) rfl) ca_0)))) (by exact (by decide : 4 ≤ 100000))) hq)

theorem has_answer {f : Addr} {fd : FuncData} (F : FnP K "answer" s_answer f fd) (g : mg "answer" = some (.ref f))  : Has P w K mg base "answer" 1 sp_answer :=
  ⟨f, fd, _, ok_answer F , g, F.kp, FunD.bindsN F fun _ _ _ _ _ _ us hl => match us, hl with | [_, _, _], _ => rfl⟩

theorem ok_is_low_digit_off {f : Addr} {fd : FuncData} (F : FnP K "is_low_digit_off" s_is_low_digit_off f fd) (c_HALF_CARRY : Cst mg "HALF_CARRY" 16) : FnOk P w K mg base CX0 1 f fd ["a", "flags"] sp_is_low_digit_off := by
  refine FunD.ok F sc_is_low_digit_off (fun vs H Q E h => ?_) (fun cdv A outer s H vs Q E hr h => ?_)
  · obtain ⟨_, _, rfl, _⟩ := h
    rfl
  · obtain ⟨a, flags, rfl, hq⟩ := h
    exact cr_fin (
        cr_ret (ce_bor (ce_cmp op_gt (ce_mod (ce_v 0 (pv 0) rfl) ce_i (by omega)) ce_i rv_I0 (nomark _)) (ce_cmp op_ne (ce_and (ce_v 1 (pv 1) rfl) (ce_g c_HALF_CARRY rfl (by decide))) ce_i rv_ine (nomark _))) hq)

theorem has_is_low_digit_off {f : Addr} {fd : FuncData} (F : FnP K "is_low_digit_off" s_is_low_digit_off f fd) (g : mg "is_low_digit_off" = some (.ref f)) (c_HALF_CARRY : Cst mg "HALF_CARRY" 16) : Has P w K mg base "is_low_digit_off" 1 sp_is_low_digit_off :=
  ⟨f, fd, _, ok_is_low_digit_off F c_HALF_CARRY, g, F.kp, FunD.bindsN F fun _ _ _ _ _ _ us hl => match us, hl with | [_, _], _ => rfl⟩

theorem ok_is_high_digit_off {f : Addr} {fd : FuncData} (F : FnP K "is_high_digit_off" s_is_high_digit_off f fd) (h_carry_of : Has P w K mg base "carry_of" 1 sp_carry_of) : FnOk P w K mg base CX0 2 f fd ["a", "flags"] sp_is_high_digit_off := by
  refine FunD.ok F sc_is_high_digit_off (fun vs H Q E h => ?_) (fun cdv A outer s H vs Q E hr h => ?_)
  · obtain ⟨_, _, rfl, _⟩ := h
    rfl
  · obtain ⟨a, flags, rfl, hq⟩ := h
    exact cr_fin (
        cr_ret (ce_bor (ce_cmp op_gt (ce_v 0 (pv 0) rfl) ce_i rv_I0 (nomark _)) (ce_cmp op_eq (ce_call h_carry_of (hr.mono (by decide)) rfl (ca_1 (ce_v 1 (pv 1) rfl) ca_0) v_carry_of (by decide)) ce_i rv_ieq (nomark _))) hq)

theorem has_is_high_digit_off {f : Addr} {fd : FuncData} (F : FnP K "is_high_digit_off" s_is_high_digit_off f fd) (g : mg "is_high_digit_off" = some (.ref f)) (h_carry_of : Has P w K mg base "carry_of" 1 sp_carry_of) : Has P w K mg base "is_high_digit_off" 2 sp_is_high_digit_off :=
  ⟨f, fd, _, ok_is_high_digit_off F h_carry_of, g, F.kp, FunD.bindsN F fun _ _ _ _ _ _ us hl => match us, hl with | [_, _], _ => rfl⟩

theorem ok_amount_off {f : Addr} {fd : FuncData} (F : FnP K "amount_off" s_amount_off f fd)  : FnOk P w K mg base CX0 1 f fd ["low", "high"] sp_amount_off := by
  refine FunD.ok F sc_amount_off (fun vs H Q E h => ?_) (fun cdv A outer s H vs Q E hr h => ?_)
  · obtain ⟨_, _, rfl, _⟩ := h
    rfl
  · obtain ⟨low, high, rfl, hq⟩ := h
    exact cr_fin (
        cr_ret (ce_add (ce_if (ct_val (ce_v 0 (pv 0) rfl)) ce_i ce_i) (ce_if (ct_val (ce_v 1 (pv 1) rfl)) ce_i ce_i)) hq)

theorem has_amount_off {f : Addr} {fd : FuncData} (F : FnP K "amount_off" s_amount_off f fd) (g : mg "amount_off" = some (.ref f))  : Has P w K mg base "amount_off" 1 sp_amount_off :=
  ⟨f, fd, _, ok_amount_off F , g, F.kp, FunD.bindsN F fun _ _ _ _ _ _ us hl => match us, hl with | [_, _], _ => rfl⟩

theorem ok_put_half_and_carry {f : Addr} {fd : FuncData} (F : FnP K "put_half_and_carry" s_put_half_and_carry f fd) (h_put : Has P w K mg base "put" 1 sp_put) (c_CARRY : Cst mg "CARRY" 1) (c_HALF_CARRY : Cst mg "HALF_CARRY" 16) : FnOk P w K mg base CX0 2 f fd ["flags", "half", "carry"] sp_put_half_and_carry := by
  refine FunD.ok F sc_put_half_and_carry (fun vs H Q E h => ?_) (fun cdv A outer s H vs Q E hr h => ?_)
  · obtain ⟨_, _, _, rfl, _⟩ := h
    rfl
  · obtain ⟨flags, half, carry, rfl, hq⟩ := h
    exact cr_fin (
        cr_ret (ce_call h_put (hr.mono (by decide)) rfl (ca_1 (ce_call h_put (hr.mono (by decide)) rfl (ca_1 (ce_v 0 (pv 0) rfl) (ca_1 (ce_g c_HALF_CARRY rfl (by decide)) (ca_1 (ce_v 1 (pv 1) rfl) ca_0))) v_put (by decide)) (ca_1 (ce_g c_CARRY rfl (by decide)) (ca_1 (ce_v 2 (pv 2) rfl) ca_0))) v_put (by decide)) hq)

theorem has_put_half_and_carry {f : Addr} {fd : FuncData} (F : FnP K "put_half_and_carry" s_put_half_and_carry f fd) (g : mg "put_half_and_carry" = some (.ref f)) (h_put : Has P w K mg base "put" 1 sp_put) (c_CARRY : Cst mg "CARRY" 1) (c_HALF_CARRY : Cst mg "HALF_CARRY" 16) : Has P w K mg base "put_half_and_carry" 2 sp_put_half_and_carry :=
  ⟨f, fd, _, ok_put_half_and_carry F h_put c_CARRY c_HALF_CARRY, g, F.kp, FunD.bindsN F fun _ _ _ _ _ _ us hl => match us, hl with | [_, _, _], _ => rfl⟩

theorem ok_op_daa {f : Addr} {fd : FuncData} (F : FnP K "op_daa" s_op_daa f fd) (h_show : Has P w K mg base "show" 3 sp_show) (h_answer : Has P w K mg base "answer" 1 sp_answer) (h_is_low_digit_off : Has P w K mg base "is_low_digit_off" 1 sp_is_low_digit_off) (h_is_high_digit_off : Has P w K mg base "is_high_digit_off" 2 sp_is_high_digit_off) (h_amount_off : Has P w K mg base "amount_off" 1 sp_amount_off) (h_put_half_and_carry : Has P w K mg base "put_half_and_carry" 2 sp_put_half_and_carry) : FnOk P w K mg base CX0 4 f fd ["width", "a", "b", "c", "flags"] sp_op_daa := by
  refine FunD.ok F sc_op_daa (fun vs H Q E h => ?_) (fun cdv A outer s H vs Q E hr h => ?_)
  · obtain ⟨_, _, _, _, _, rfl, _⟩ := h
    rfl
  · obtain ⟨width, a, b, c, flags, rfl, pre, hq⟩ := h
    exact cr_fin (
        cr_set (ce_call h_is_low_digit_off (hr.mono (by decide)) rfl (ca_1 (ce_v 1 (pv 1) rfl) (ca_1 (ce_v 4 (pv 4) rfl) ca_0)) v_is_low_digit_off (by decide)) (fun _ h => ps_set (i := 5) sc_op_daa.nd rfl (Or.inl rfl) h) <|
        cr_set (ce_call h_is_high_digit_off (hr.mono (by decide)) rfl (ca_1 (ce_v 1 (pv 1) rfl) (ca_1 (ce_v 4 (pv 4) rfl) ca_0)) v_is_high_digit_off (by decide)) (fun _ h => ps_set (i := 6) sc_op_daa.nd rfl (Or.inl rfl) h) <|
        cr_set (ce_mod (ce_add (ce_v 1 (pv 1) rfl) (ce_call h_amount_off (hr.mono (by decide)) rfl (ca_1 (ce_v 5 (pv 5) rfl) (ca_1 (ce_v 6 (pv 6) rfl) ca_0)) v_amount_off (by decide))) ce_i (by omega)) (fun _ h => ps_set (i := 7) sc_op_daa.nd rfl (Or.inl rfl) h) <|
        cr_retL (cl_call h_answer (hr.mono (by decide)) rfl (ca_1 (ce_v 7 (pv 7) rfl) (ca_1 ce_i (ca_1 (ce_call h_put_half_and_carry (hr.mono (by decide)) rfl (ca_1 (ce_call h_show (hr.mono (by decide)) rfl (ca_1 (ce_v 4 (pv 4) rfl) (ca_1 (ce_v 7 (pv 7) rfl) (ca_1 ce_i ca_0))) (v_show (by omega)) (by decide)) (ca_1 (ce_v 5 (pv 5) rfl) (ca_1 (ce_v 6 (pv 6) rfl) ca_0))) v_put_half_and_carry (by decide)) ca_0))) v_answer (by decide)) hq)

theorem has_op_daa {f : Addr} {fd : FuncData} (F : FnP K "op_daa" s_op_daa f fd) (g : mg "op_daa" = some (.ref f)) (h_show : Has P w K mg base "show" 3 sp_show) (h_answer : Has P w K mg base "answer" 1 sp_answer) (h_is_low_digit_off : Has P w K mg base "is_low_digit_off" 1 sp_is_low_digit_off) (h_is_high_digit_off : Has P w K mg base "is_high_digit_off" 2 sp_is_high_digit_off) (h_amount_off : Has P w K mg base "amount_off" 1 sp_amount_off) (h_put_half_and_carry : Has P w K mg base "put_half_and_carry" 2 sp_put_half_and_carry) : Has P w K mg base "op_daa" 4 sp_op_daa :=
  ⟨f, fd, _, ok_op_daa F h_show h_answer h_is_low_digit_off h_is_high_digit_off h_amount_off h_put_half_and_carry, g, F.kp, FunD.bindsN F fun _ _ _ _ _ _ us hl => match us, hl with | [_, _, _, _, _], _ => rfl⟩

theorem ok_op_das {f : Addr} {fd : FuncData} (F : FnP K "op_das" s_op_das f fd) (h_show : Has P w K mg base "show" 3 sp_show) (h_answer : Has P w K mg base "answer" 1 sp_answer) (h_is_low_digit_off : Has P w K mg base "is_low_digit_off" 1 sp_is_low_digit_off) (h_is_high_digit_off : Has P w K mg base "is_high_digit_off" 2 sp_is_high_digit_off) (h_amount_off : Has P w K mg base "amount_off" 1 sp_amount_off) (h_put_half_and_carry : Has P w K mg base "put_half_and_carry" 2 sp_put_half_and_carry) : FnOk P w K mg base CX0 4 f fd ["width", "a", "b", "c", "flags"] sp_op_das := by
  refine FunD.ok F sc_op_das (fun vs H Q E h => ?_) (fun cdv A outer s H vs Q E hr h => ?_)
  · obtain ⟨_, _, _, _, _, rfl, _⟩ := h
    rfl
  · obtain ⟨width, a, b, c, flags, rfl, pre, hq⟩ := h
    exact cr_fin (
        cr_set (ce_call h_is_low_digit_off (hr.mono (by decide)) rfl (ca_1 (ce_v 1 (pv 1) rfl) (ca_1 (ce_v 4 (pv 4) rfl) ca_0)) v_is_low_digit_off (by decide)) (fun _ h => ps_set (i := 5) sc_op_das.nd rfl (Or.inl rfl) h) <|
        cr_set (ce_call h_is_high_digit_off (hr.mono (by decide)) rfl (ca_1 (ce_v 1 (pv 1) rfl) (ca_1 (ce_v 4 (pv 4) rfl) ca_0)) v_is_high_digit_off (by decide)) (fun _ h => ps_set (i := 6) sc_op_das.nd rfl (Or.inl rfl) h) <|
        cr_set (ce_mod (ce_sub (ce_v 1 (pv 1) rfl) (ce_call h_amount_off (hr.mono (by decide)) rfl (ca_1 (ce_v 5 (pv 5) rfl) (ca_1 (ce_v 6 (pv 6) rfl) ca_0)) v_amount_off (by decide))) ce_i (by omega)) (fun _ h => ps_set (i := 7) sc_op_das.nd rfl (Or.inl rfl) h) <|
        cr_set (ce_bor (ce_v 6 (pv 6) rfl) (ce_band (ce_v 5 (pv 5) rfl) (ce_cmp op_lt (ce_v 1 (pv 1) rfl) ce_i rv_I0 (nomark _)))) (fun _ h => ps_set (i := 8) sc_op_das.nd rfl (Or.inl rfl) h) <|
        cr_retL (cl_call h_answer (hr.mono (by decide)) rfl (ca_1 (ce_v 7 (pv 7) rfl) (ca_1 ce_i (ca_1 (ce_call h_put_half_and_carry (hr.mono (by decide)) rfl (ca_1 (ce_call h_show (hr.mono (by decide)) rfl (ca_1 (ce_v 4 (pv 4) rfl) (ca_1 (ce_v 7 (pv 7) rfl) (ca_1 ce_i ca_0))) (v_show (by omega)) (by decide)) (ca_1 (ce_v 5 (pv 5) rfl) (ca_1 (ce_v 8 (pv 8) rfl) ca_0))) v_put_half_and_carry (by decide)) ca_0))) v_answer (by decide)) hq)

theorem has_op_das {f : Addr} {fd : FuncData} (F : FnP K "op_das" s_op_das f fd) (g : mg "op_das" = some (.ref f)) (h_show : Has P w K mg base "show" 3 sp_show) (h_answer : Has P w K mg base "answer" 1 sp_answer) (h_is_low_digit_off : Has P w K mg base "is_low_digit_off" 1 sp_is_low_digit_off) (h_is_high_digit_off : Has P w K mg base "is_high_digit_off" 2 sp_is_high_digit_off) (h_amount_off : Has P w K mg base "amount_off" 1 sp_amount_off) (h_put_half_and_carry : Has P w K mg base "put_half_and_carry" 2 sp_put_half_and_carry) : Has P w K mg base "op_das" 4 sp_op_das :=
  ⟨f, fd, _, ok_op_das F h_show h_answer h_is_low_digit_off h_is_high_digit_off h_amount_off h_put_half_and_carry, g, F.kp, FunD.bindsN F fun _ _ _ _ _ _ us hl => match us, hl with | [_, _, _, _, _], _ => rfl⟩

theorem ok_one_digit_answer {f : Addr} {fd : FuncData} (F : FnP K "one_digit_answer" s_one_digit_answer f fd) (h_answer : Has P w K mg base "answer" 1 sp_answer) (h_is_low_digit_off : Has P w K mg base "is_low_digit_off" 1 sp_is_low_digit_off) (h_put_half_and_carry : Has P w K mg base "put_half_and_carry" 2 sp_put_half_and_carry) : FnOk P w K mg base CX0 3 f fd ["a", "amount", "flags"] sp_one_digit_answer := by
  refine FunD.ok F sc_one_digit_answer (fun vs H Q E h => ?_) (fun cdv A outer s H vs Q E hr h => ?_)
  · obtain ⟨_, _, _, rfl, _⟩ := h
    rfl
  · obtain ⟨a, amount, flags, rfl, pre, hq⟩ := h
    exact cr_fin (
        cr_set (ce_call h_is_low_digit_off (hr.mono (by decide)) rfl (ca_1 (ce_v 0 (pv 0) rfl) (ca_1 (ce_v 2 (pv 2) rfl) ca_0)) v_is_low_digit_off (by decide)) (fun _ h => ps_set (i := 3) sc_one_digit_answer.nd rfl (Or.inl rfl) h) <|
        cr_set (ce_if (ct_val (ce_v 3 (pv 3) rfl)) (ce_mod (ce_add (ce_v 0 (pv 0) rfl) (ce_v 1 (pv 1) rfl)) ce_i (by omega)) (ce_v 0 (pv 0) rfl)) (fun _ h => ps_set (i := 4) sc_one_digit_answer.nd rfl (Or.inl rfl) h) <|
        cr_set (ce_add (ce_mul (ce_div (ce_v 4 (pv 4) rfl) ce_i (wide_div (b := 66) (by omega) (by omega) (by decide) (by decide))) ce_i (wide_mul (a := 66) (b := 10) (by split <;> omega) (by omega) (by decide) (by decide) (by decide))) (ce_mod (ce_v 4 (pv 4) rfl) ce_i (by omega))) (fun _ h => ps_set (i := 5) sc_one_digit_answer.nd rfl (Or.inl rfl) h) <|
        cr_retL (cl_call h_answer (hr.mono (by decide)) rfl (ca_1 (ce_v 5 (pv 5) rfl) (ca_1 ce_i (ca_1 (ce_call h_put_half_and_carry (hr.mono (by decide)) rfl (ca_1 (ce_v 2 (pv 2) rfl) (ca_1 (ce_v 3 (pv 3) rfl) (ca_1 (ce_v 3 (pv 3) rfl) ca_0))) v_put_half_and_carry (by decide)) ca_0))) v_answer (by decide)) hq)

theorem has_one_digit_answer {f : Addr} {fd : FuncData} (F : FnP K "one_digit_answer" s_one_digit_answer f fd) (g : mg "one_digit_answer" = some (.ref f)) (h_answer : Has P w K mg base "answer" 1 sp_answer) (h_is_low_digit_off : Has P w K mg base "is_low_digit_off" 1 sp_is_low_digit_off) (h_put_half_and_carry : Has P w K mg base "put_half_and_carry" 2 sp_put_half_and_carry) : Has P w K mg base "one_digit_answer" 3 sp_one_digit_answer :=
  ⟨f, fd, _, ok_one_digit_answer F h_answer h_is_low_digit_off h_put_half_and_carry, g, F.kp, FunD.bindsN F fun _ _ _ _ _ _ us hl => match us, hl with | [_, _, _], _ => rfl⟩

theorem ok_op_aaa {f : Addr} {fd : FuncData} (F : FnP K "op_aaa" s_op_aaa f fd) (h_one_digit_answer : Has P w K mg base "one_digit_answer" 3 sp_one_digit_answer) : FnOk P w K mg base CX0 4 f fd ["width", "a", "b", "c", "flags"] sp_op_aaa := by
  refine FunD.ok F sc_op_aaa (fun vs H Q E h => ?_) (fun cdv A outer s H vs Q E hr h => ?_)
  · obtain ⟨_, _, _, _, _, rfl, _⟩ := h
    rfl
  · obtain ⟨width, a, b, c, flags, rfl, pre, hq⟩ := h
    exact cr_fin (
        cr_retL (cl_call h_one_digit_answer (hr.mono (by decide)) rfl (ca_1 (ce_v 1 (pv 1) rfl) (ca_1 ce_i (ca_1 (ce_v 4 (pv 4) rfl) ca_0))) (v_one_digit_answer (by omega)) (by decide)) hq)

theorem has_op_aaa {f : Addr} {fd : FuncData} (F : FnP K "op_aaa" s_op_aaa f fd) (g : mg "op_aaa" = some (.ref f)) (h_one_digit_answer : Has P w K mg base "one_digit_answer" 3 sp_one_digit_answer) : Has P w K mg base "op_aaa" 4 sp_op_aaa :=
  ⟨f, fd, _, ok_op_aaa F h_one_digit_answer, g, F.kp, FunD.bindsN F fun _ _ _ _ _ _ us hl => match us, hl with | [_, _, _, _, _], _ => rfl⟩

theorem ok_op_aas {f : Addr} {fd : FuncData} (F : FnP K "op_aas" s_op_aas f fd) (h_one_digit_answer : Has P w K mg base "one_digit_answer" 3 sp_one_digit_answer) : FnOk P w K mg base CX0 4 f fd ["width", "a", "b", "c", "flags"] sp_op_aas := by
  refine FunD.ok F sc_op_aas (fun vs H Q E h => ?_) (fun cdv A outer s H vs Q E hr h => ?_)
  · obtain ⟨_, _, _, _, _, rfl, _⟩ := h
    rfl
  · obtain ⟨width, a, b, c, flags, rfl, pre, hq⟩ := h
    exact cr_fin (
        cr_retL (cl_call h_one_digit_answer (hr.mono (by decide)) rfl (ca_1 (ce_v 1 (pv 1) rfl) (ca_1 (ce_neg ce_i) (ca_1 (ce_v 4 (pv 4) rfl) ca_0))) (v_one_digit_answer (by omega)) (by decide)) hq)

theorem has_op_aas {f : Addr} {fd : FuncData} (F : FnP K "op_aas" s_op_aas f fd) (g : mg "op_aas" = some (.ref f)) (h_one_digit_answer : Has P w K mg base "one_digit_answer" 3 sp_one_digit_answer) : Has P w K mg base "op_aas" 4 sp_op_aas :=
  ⟨f, fd, _, ok_op_aas F h_one_digit_answer, g, F.kp, FunD.bindsN F fun _ _ _ _ _ _ us hl => match us, hl with | [_, _, _, _, _], _ => rfl⟩

theorem ok_op_aam {f : Addr} {fd : FuncData} (F : FnP K "op_aam" s_op_aam f fd) (h_show : Has P w K mg base "show" 3 sp_show) (h_answer : Has P w K mg base "answer" 1 sp_answer) : FnOk P w K mg base CX0 4 f fd ["width", "a", "b", "c", "flags"] sp_op_aam := by
  refine FunD.ok F sc_op_aam (fun vs H Q E h => ?_) (fun cdv A outer s H vs Q E hr h => ?_)
  · obtain ⟨_, _, _, _, _, rfl, _⟩ := h
    rfl
  · obtain ⟨width, a, b, c, flags, rfl, pre, hq⟩ := h
    exact cr_fin (
        cr_set (ce_mod (ce_v 2 (pv 2) rfl) ce_i (by omega)) (fun _ h => ps_set (i := 5) sc_op_aam.nd rfl (Or.inl rfl) h) <|
        cr_if (ct_cmp op_eq (ce_v 5 (pv 5) rfl) ce_i rv_ieq (nomark _)) (fun hp1 =>
          cr_retL (cl_lst (ca_1 (ce_neg ce_i) ca_0) (by exact (by decide : 1 ≤ 100000))) (retl_t hp1 hq)) fun hp1 =>
        cr_set (ce_mod (ce_v 1 (pv 1) rfl) ce_i (by omega)) (fun _ h => ps_set (i := 6) sc_op_aam.nd rfl (Or.inl rfl) h) <|
        cr_set (ce_mod (ce_v 6 (pv 6) rfl) (ce_v 5 (pv 5) rfl) (by have := of_decide_eq_false hp1; omega)) (fun _ h => ps_set (i := 7) sc_op_aam.nd rfl (Or.inl rfl) h) <|
        cr_retL (cl_call h_answer (hr.mono (by decide)) rfl (ca_1 (ce_add (ce_mul (ce_div (ce_v 6 (pv 6) rfl) (ce_v 5 (pv 5) rfl) (wide_div (b := 9) (by have := of_decide_eq_false hp1; omega) (by omega) (by decide) (by decide))) ce_i (wide_mul (a := 9) (b := 10) (aam_le (by omega) (by omega) (by have := of_decide_eq_false hp1; omega)) (by omega) (by decide) (by decide) (by decide))) (ce_v 7 (pv 7) rfl)) (ca_1 ce_i (ca_1 (ce_call h_show (hr.mono (by decide)) rfl (ca_1 (ce_v 4 (pv 4) rfl) (ca_1 (ce_v 7 (pv 7) rfl) (ca_1 ce_i ca_0))) (v_show (by omega)) (by decide)) ca_0))) v_answer (by decide)) (retl_f hp1 hq))

theorem has_op_aam {f : Addr} {fd : FuncData} (F : FnP K "op_aam" s_op_aam f fd) (g : mg "op_aam" = some (.ref f)) (h_show : Has P w K mg base "show" 3 sp_show) (h_answer : Has P w K mg base "answer" 1 sp_answer) : Has P w K mg base "op_aam" 4 sp_op_aam :=
  ⟨f, fd, _, ok_op_aam F h_show h_answer, g, F.kp, FunD.bindsN F fun _ _ _ _ _ _ us hl => match us, hl with | [_, _, _, _, _], _ => rfl⟩

theorem ok_op_aad {f : Addr} {fd : FuncData} (F : FnP K "op_aad" s_op_aad f fd) (h_show : Has P w K mg base "show" 3 sp_show) (h_answer : Has P w K mg base "answer" 1 sp_answer) : FnOk P w K mg base CX0 4 f fd ["width", "a", "b", "c", "flags"] sp_op_aad := by
  refine FunD.ok F sc_op_aad (fun vs H Q E h => ?_) (fun cdv A outer s H vs Q E hr h => ?_)
  · obtain ⟨_, _, _, _, _, rfl, _⟩ := h
    rfl
  · obtain ⟨width, a, b, c, flags, rfl, pre, hq⟩ := h
    exact cr_fin (
        cr_set (ce_mod (ce_add (ce_mod (ce_v 1 (pv 1) rfl) ce_i (by omega)) (ce_mul (ce_div (ce_v 1 (pv 1) rfl) ce_i (wide_div (b := 66) (by omega) (by omega) (by decide) (by decide))) (ce_mod (ce_v 2 (pv 2) rfl) ce_i (by omega)) (wide_mul (a := 66) (b := 10) (by omega) (by omega) (by decide) (by decide) (by decide)))) ce_i (by omega)) (fun _ h => ps_set (i := 5) sc_op_aad.nd rfl (Or.inl rfl) h) <|
        cr_retL (cl_call h_answer (hr.mono (by decide)) rfl (ca_1 (ce_v 5 (pv 5) rfl) (ca_1 ce_i (ca_1 (ce_call h_show (hr.mono (by decide)) rfl (ca_1 (ce_v 4 (pv 4) rfl) (ca_1 (ce_v 5 (pv 5) rfl) (ca_1 ce_i ca_0))) (v_show (by omega)) (by decide)) ca_0))) v_answer (by decide)) hq)

theorem has_op_aad {f : Addr} {fd : FuncData} (F : FnP K "op_aad" s_op_aad f fd) (g : mg "op_aad" = some (.ref f)) (h_show : Has P w K mg base "show" 3 sp_show) (h_answer : Has P w K mg base "answer" 1 sp_answer) : Has P w K mg base "op_aad" 4 sp_op_aad :=
  ⟨f, fd, _, ok_op_aad F h_show h_answer, g, F.kp, FunD.bindsN F fun _ _ _ _ _ _ us hl => match us, hl with | [_, _, _, _, _], _ => rfl⟩

theorem ok_run_decimal {f : Addr} {fd : FuncData} (F : FnP K "run_decimal" s_run_decimal f fd) (h_op_daa : Has P w K mg base "op_daa" 4 sp_op_daa) (h_op_das : Has P w K mg base "op_das" 4 sp_op_das) (h_op_aaa : Has P w K mg base "op_aaa" 4 sp_op_aaa) (h_op_aas : Has P w K mg base "op_aas" 4 sp_op_aas) (h_op_aam : Has P w K mg base "op_aam" 4 sp_op_aam) (h_op_aad : Has P w K mg base "op_aad" 4 sp_op_aad) (t_DECIMAL_STEPS : Tab mg K "DECIMAL_STEPS" [(38, "op_daa"), (39, "op_das"), (40, "op_aaa"), (41, "op_aas"), (42, "op_aam"), (43, "op_aad")]) : FnOk P w K mg base CX0 5 f fd ["op", "width", "a", "b", "c", "flags"] sp_run_decimal := by
  refine FunD.ok F sc_run_decimal (fun vs H Q E h => ?_) (fun cdv A outer s H vs Q E hr h => ?_)
  · obtain ⟨_, _, _, _, _, _, rfl, _⟩ := h
    rfl
  · obtain ⟨op, width, a, b, c, flags, rfl, pre, hq⟩ := h
    have hop : op = 38 ∨ op = 39 ∨ op = 40 ∨ op = 41 ∨ op = 42 ∨ op = 43 := by omega
    refine cr_fin ?_
    rcases hop with rfl | rfl | rfl | rfl | rfl | rfl
    · exact cr_step (n := 6) (i := 38) (y := "op_daa") t_DECIMAL_STEPS (by decide) h_op_daa (hr.mono (by decide)) (v_op_daa pre.2) (pv 6) (ce_v 0 (pv 0) rfl) (fun _ => rfl) (fun _ h => ps_set (i := 6) sc_run_decimal.nd rfl (Or.inl rfl) h) (fun _ => (ca_1 (ce_v 1 (pv 1) rfl) (ca_1 (ce_v 2 (pv 2) rfl) (ca_1 (ce_v 3 (pv 3) rfl) (ca_1 (ce_v 4 (pv 4) rfl) (ca_1 (ce_v 5 (pv 5) rfl) ca_0)))))) hq
    · exact cr_step (n := 6) (i := 39) (y := "op_das") t_DECIMAL_STEPS (by decide) h_op_das (hr.mono (by decide)) (v_op_das pre.2) (pv 6) (ce_v 0 (pv 0) rfl) (fun _ => rfl) (fun _ h => ps_set (i := 6) sc_run_decimal.nd rfl (Or.inl rfl) h) (fun _ => (ca_1 (ce_v 1 (pv 1) rfl) (ca_1 (ce_v 2 (pv 2) rfl) (ca_1 (ce_v 3 (pv 3) rfl) (ca_1 (ce_v 4 (pv 4) rfl) (ca_1 (ce_v 5 (pv 5) rfl) ca_0)))))) hq
    · exact cr_step (n := 6) (i := 40) (y := "op_aaa") t_DECIMAL_STEPS (by decide) h_op_aaa (hr.mono (by decide)) (v_op_aaa pre.2) (pv 6) (ce_v 0 (pv 0) rfl) (fun _ => rfl) (fun _ h => ps_set (i := 6) sc_run_decimal.nd rfl (Or.inl rfl) h) (fun _ => (ca_1 (ce_v 1 (pv 1) rfl) (ca_1 (ce_v 2 (pv 2) rfl) (ca_1 (ce_v 3 (pv 3) rfl) (ca_1 (ce_v 4 (pv 4) rfl) (ca_1 (ce_v 5 (pv 5) rfl) ca_0)))))) hq
    · exact cr_step (n := 6) (i := 41) (y := "op_aas") t_DECIMAL_STEPS (by decide) h_op_aas (hr.mono (by decide)) (v_op_aas pre.2) (pv 6) (ce_v 0 (pv 0) rfl) (fun _ => rfl) (fun _ h => ps_set (i := 6) sc_run_decimal.nd rfl (Or.inl rfl) h) (fun _ => (ca_1 (ce_v 1 (pv 1) rfl) (ca_1 (ce_v 2 (pv 2) rfl) (ca_1 (ce_v 3 (pv 3) rfl) (ca_1 (ce_v 4 (pv 4) rfl) (ca_1 (ce_v 5 (pv 5) rfl) ca_0)))))) hq
    · exact cr_step (n := 6) (i := 42) (y := "op_aam") t_DECIMAL_STEPS (by decide) h_op_aam (hr.mono (by decide)) (v_op_aam pre.2) (pv 6) (ce_v 0 (pv 0) rfl) (fun _ => rfl) (fun _ h => ps_set (i := 6) sc_run_decimal.nd rfl (Or.inl rfl) h) (fun _ => (ca_1 (ce_v 1 (pv 1) rfl) (ca_1 (ce_v 2 (pv 2) rfl) (ca_1 (ce_v 3 (pv 3) rfl) (ca_1 (ce_v 4 (pv 4) rfl) (ca_1 (ce_v 5 (pv 5) rfl) ca_0)))))) hq
    · exact cr_step (n := 6) (i := 43) (y := "op_aad") t_DECIMAL_STEPS (by decide) h_op_aad (hr.mono (by decide)) (v_op_aad pre.2) (pv 6) (ce_v 0 (pv 0) rfl) (fun _ => rfl) (fun _ h => ps_set (i := 6) sc_run_decimal.nd rfl (Or.inl rfl) h) (fun _ => (ca_1 (ce_v 1 (pv 1) rfl) (ca_1 (ce_v 2 (pv 2) rfl) (ca_1 (ce_v 3 (pv 3) rfl) (ca_1 (ce_v 4 (pv 4) rfl) (ca_1 (ce_v 5 (pv 5) rfl) ca_0)))))) hq

theorem has_run_decimal {f : Addr} {fd : FuncData} (F : FnP K "run_decimal" s_run_decimal f fd) (g : mg "run_decimal" = some (.ref f)) (h_op_daa : Has P w K mg base "op_daa" 4 sp_op_daa) (h_op_das : Has P w K mg base "op_das" 4 sp_op_das) (h_op_aaa : Has P w K mg base "op_aaa" 4 sp_op_aaa) (h_op_aas : Has P w K mg base "op_aas" 4 sp_op_aas) (h_op_aam : Has P w K mg base "op_aam" 4 sp_op_aam) (h_op_aad : Has P w K mg base "op_aad" 4 sp_op_aad) (t_DECIMAL_STEPS : Tab mg K "DECIMAL_STEPS" [(38, "op_daa"), (39, "op_das"), (40, "op_aaa"), (41, "op_aas"), (42, "op_aam"), (43, "op_aad")]) : Has P w K mg base "run_decimal" 5 sp_run_decimal :=
  ⟨f, fd, _, ok_run_decimal F h_op_daa h_op_das h_op_aaa h_op_aas h_op_aam h_op_aad t_DECIMAL_STEPS, g, F.kp, FunD.bindsN F fun _ _ _ _ _ _ us hl => match us, hl with | [_, _, _, _, _, _], _ => rfl⟩

theorem ok_bitwise_flags {f : Addr} {fd : FuncData} (F : FnP K "bitwise_flags" s_bitwise_flags f fd) (h_put : Has P w K mg base "put" 1 sp_put) (h_show : Has P w K mg base "show" 3 sp_show) (c_CARRY : Cst mg "CARRY" 1) (c_OVERFLOW : Cst mg "OVERFLOW" 2048) : FnOk P w K mg base CX0 4 f fd ["width", "lo", "flags"] sp_bitwise_flags := by
  refine FunD.ok F sc_bitwise_flags (fun vs H Q E h => ?_) (fun cdv A outer s H vs Q E hr h => ?_)
  · obtain ⟨_, _, _, rfl, _⟩ := h
    rfl
  · obtain ⟨width, lo, flags, rfl, pre, hq⟩ := h
    exact cr_fin (
        cr_set (ce_call h_show (hr.mono (by decide)) rfl (ca_1 (ce_v 2 (pv 2) rfl) (ca_1 (ce_v 1 (pv 1) rfl) (ca_1 (ce_v 0 (pv 0) rfl) ca_0))) (v_show (by omega)) (by decide)) (fun _ h => ps_set (i := 3) sc_bitwise_flags.nd rfl (Or.inl rfl) h) <|
        cr_set (ce_call h_put (hr.mono (by decide)) rfl (ca_1 (ce_v 3 (pv 3) rfl) (ca_1 (ce_g c_CARRY rfl (by decide)) (ca_1 ce_b ca_0))) v_put (by decide)) (fun _ h => ps_set (i := 3) sc_bitwise_flags.nd rfl (Or.inl rfl) h) <|
        cr_ret (ce_call h_put (hr.mono (by decide)) rfl (ca_1 (ce_v 3 (pv 3) rfl) (ca_1 (ce_g c_OVERFLOW rfl (by decide)) (ca_1 ce_b ca_0))) v_put (by decide)) hq)

theorem has_bitwise_flags {f : Addr} {fd : FuncData} (F : FnP K "bitwise_flags" s_bitwise_flags f fd) (g : mg "bitwise_flags" = some (.ref f)) (h_put : Has P w K mg base "put" 1 sp_put) (h_show : Has P w K mg base "show" 3 sp_show) (c_CARRY : Cst mg "CARRY" 1) (c_OVERFLOW : Cst mg "OVERFLOW" 2048) : Has P w K mg base "bitwise_flags" 4 sp_bitwise_flags :=
  ⟨f, fd, _, ok_bitwise_flags F h_put h_show c_CARRY c_OVERFLOW, g, F.kp, FunD.bindsN F fun _ _ _ _ _ _ us hl => match us, hl with | [_, _, _], _ => rfl⟩

theorem ok_op_and {f : Addr} {fd : FuncData} (F : FnP K "op_and" s_op_and f fd) (h_answer : Has P w K mg base "answer" 1 sp_answer) (h_bitwise_flags : Has P w K mg base "bitwise_flags" 4 sp_bitwise_flags) : FnOk P w K mg base CX0 5 f fd ["width", "a", "b", "c", "flags"] sp_op_and := by
  refine FunD.ok F sc_op_and (fun vs H Q E h => ?_) (fun cdv A outer s H vs Q E hr h => ?_)
  · obtain ⟨_, _, _, _, _, rfl, _⟩ := h
    rfl
  · obtain ⟨width, a, b, c, flags, rfl, pre, hq⟩ := h
    exact cr_fin (
        cr_retL (cl_call h_answer (hr.mono (by decide)) rfl (ca_1 (ce_and (ce_v 1 (pv 1) rfl) (ce_v 2 (pv 2) rfl)) (ca_1 ce_i (ca_1 (ce_call h_bitwise_flags (hr.mono (by decide)) rfl (ca_1 (ce_v 0 (pv 0) rfl) (ca_1 (ce_and (ce_v 1 (pv 1) rfl) (ce_v 2 (pv 2) rfl)) (ca_1 (ce_v 4 (pv 4) rfl) ca_0))) (v_bitwise_flags (by omega)) (by decide)) ca_0))) v_answer (by decide)) hq)

theorem has_op_and {f : Addr} {fd : FuncData} (F : FnP K "op_and" s_op_and f fd) (g : mg "op_and" = some (.ref f)) (h_answer : Has P w K mg base "answer" 1 sp_answer) (h_bitwise_flags : Has P w K mg base "bitwise_flags" 4 sp_bitwise_flags) : Has P w K mg base "op_and" 5 sp_op_and :=
  ⟨f, fd, _, ok_op_and F h_answer h_bitwise_flags, g, F.kp, FunD.bindsN F fun _ _ _ _ _ _ us hl => match us, hl with | [_, _, _, _, _], _ => rfl⟩

theorem ok_op_or {f : Addr} {fd : FuncData} (F : FnP K "op_or" s_op_or f fd) (h_answer : Has P w K mg base "answer" 1 sp_answer) (h_bitwise_flags : Has P w K mg base "bitwise_flags" 4 sp_bitwise_flags) : FnOk P w K mg base CX0 5 f fd ["width", "a", "b", "c", "flags"] sp_op_or := by
  refine FunD.ok F sc_op_or (fun vs H Q E h => ?_) (fun cdv A outer s H vs Q E hr h => ?_)
  · obtain ⟨_, _, _, _, _, rfl, _⟩ := h
    rfl
  · obtain ⟨width, a, b, c, flags, rfl, pre, hq⟩ := h
    exact cr_fin (
        cr_retL (cl_call h_answer (hr.mono (by decide)) rfl (ca_1 (ce_or (ce_v 1 (pv 1) rfl) (ce_v 2 (pv 2) rfl)) (ca_1 ce_i (ca_1 (ce_call h_bitwise_flags (hr.mono (by decide)) rfl (ca_1 (ce_v 0 (pv 0) rfl) (ca_1 (ce_or (ce_v 1 (pv 1) rfl) (ce_v 2 (pv 2) rfl)) (ca_1 (ce_v 4 (pv 4) rfl) ca_0))) (v_bitwise_flags (by omega)) (by decide)) ca_0))) v_answer (by decide)) hq)

theorem has_op_or {f : Addr} {fd : FuncData} (F : FnP K "op_or" s_op_or f fd) (g : mg "op_or" = some (.ref f)) (h_answer : Has P w K mg base "answer" 1 sp_answer) (h_bitwise_flags : Has P w K mg base "bitwise_flags" 4 sp_bitwise_flags) : Has P w K mg base "op_or" 5 sp_op_or :=
  ⟨f, fd, _, ok_op_or F h_answer h_bitwise_flags, g, F.kp, FunD.bindsN F fun _ _ _ _ _ _ us hl => match us, hl with | [_, _, _, _, _], _ => rfl⟩

theorem ok_op_xor {f : Addr} {fd : FuncData} (F : FnP K "op_xor" s_op_xor f fd) (h_answer : Has P w K mg base "answer" 1 sp_answer) (h_bitwise_flags : Has P w K mg base "bitwise_flags" 4 sp_bitwise_flags) : FnOk P w K mg base CX0 5 f fd ["width", "a", "b", "c", "flags"] sp_op_xor := by
  refine FunD.ok F sc_op_xor (fun vs H Q E h => ?_) (fun cdv A outer s H vs Q E hr h => ?_)
  · obtain ⟨_, _, _, _, _, rfl, _⟩ := h
    rfl
  · obtain ⟨width, a, b, c, flags, rfl, pre, hq⟩ := h
    exact cr_fin (
        cr_retL (cl_call h_answer (hr.mono (by decide)) rfl (ca_1 (ce_xor (ce_v 1 (pv 1) rfl) (ce_v 2 (pv 2) rfl)) (ca_1 ce_i (ca_1 (ce_call h_bitwise_flags (hr.mono (by decide)) rfl (ca_1 (ce_v 0 (pv 0) rfl) (ca_1 (ce_xor (ce_v 1 (pv 1) rfl) (ce_v 2 (pv 2) rfl)) (ca_1 (ce_v 4 (pv 4) rfl) ca_0))) (v_bitwise_flags (by omega)) (by decide)) ca_0))) v_answer (by decide)) hq)

theorem has_op_xor {f : Addr} {fd : FuncData} (F : FnP K "op_xor" s_op_xor f fd) (g : mg "op_xor" = some (.ref f)) (h_answer : Has P w K mg base "answer" 1 sp_answer) (h_bitwise_flags : Has P w K mg base "bitwise_flags" 4 sp_bitwise_flags) : Has P w K mg base "op_xor" 5 sp_op_xor :=
  ⟨f, fd, _, ok_op_xor F h_answer h_bitwise_flags, g, F.kp, FunD.bindsN F fun _ _ _ _ _ _ us hl => match us, hl with | [_, _, _, _, _], _ => rfl⟩

theorem ok_op_test {f : Addr} {fd : FuncData} (F : FnP K "op_test" s_op_test f fd) (h_answer : Has P w K mg base "answer" 1 sp_answer) (h_bitwise_flags : Has P w K mg base "bitwise_flags" 4 sp_bitwise_flags) : FnOk P w K mg base CX0 5 f fd ["width", "a", "b", "c", "flags"] sp_op_test := by
  refine FunD.ok F sc_op_test (fun vs H Q E h => ?_) (fun cdv A outer s H vs Q E hr h => ?_)
  · obtain ⟨_, _, _, _, _, rfl, _⟩ := h
    rfl
  · obtain ⟨width, a, b, c, flags, rfl, pre, hq⟩ := h
    exact cr_fin (
        cr_retL (cl_call h_answer (hr.mono (by decide)) rfl (ca_1 (ce_v 1 (pv 1) rfl) (ca_1 ce_i (ca_1 (ce_call h_bitwise_flags (hr.mono (by decide)) rfl (ca_1 (ce_v 0 (pv 0) rfl) (ca_1 (ce_and (ce_v 1 (pv 1) rfl) (ce_v 2 (pv 2) rfl)) (ca_1 (ce_v 4 (pv 4) rfl) ca_0))) (v_bitwise_flags (by omega)) (by decide)) ca_0))) v_answer (by decide)) hq)

theorem has_op_test {f : Addr} {fd : FuncData} (F : FnP K "op_test" s_op_test f fd) (g : mg "op_test" = some (.ref f)) (h_answer : Has P w K mg base "answer" 1 sp_answer) (h_bitwise_flags : Has P w K mg base "bitwise_flags" 4 sp_bitwise_flags) : Has P w K mg base "op_test" 5 sp_op_test :=
  ⟨f, fd, _, ok_op_test F h_answer h_bitwise_flags, g, F.kp, FunD.bindsN F fun _ _ _ _ _ _ us hl => match us, hl with | [_, _, _, _, _], _ => rfl⟩

theorem ok_op_not {f : Addr} {fd : FuncData} (F : FnP K "op_not" s_op_not f fd) (h_greatest : Has P w K mg base "greatest" 1 sp_greatest) (h_answer : Has P w K mg base "answer" 1 sp_answer) : FnOk P w K mg base CX0 2 f fd ["width", "a", "b", "c", "flags"] sp_op_not := by
  refine FunD.ok F sc_op_not (fun vs H Q E h => ?_) (fun cdv A outer s H vs Q E hr h => ?_)
  · obtain ⟨_, _, _, _, _, rfl, _⟩ := h
    rfl
  · obtain ⟨width, a, b, c, flags, rfl, pre, hq⟩ := h
    exact cr_fin (
        cr_retL (cl_call h_answer (hr.mono (by decide)) rfl (ca_1 (ce_sub (ce_call h_greatest (hr.mono (by decide)) rfl (ca_1 (ce_v 0 (pv 0) rfl) ca_0) (v_greatest (by omega)) (by decide)) (ce_v 1 (pv 1) rfl)) (ca_1 ce_i (ca_1 (ce_v 4 (pv 4) rfl) ca_0))) v_answer (by decide)) hq)

theorem has_op_not {f : Addr} {fd : FuncData} (F : FnP K "op_not" s_op_not f fd) (g : mg "op_not" = some (.ref f)) (h_greatest : Has P w K mg base "greatest" 1 sp_greatest) (h_answer : Has P w K mg base "answer" 1 sp_answer) : Has P w K mg base "op_not" 2 sp_op_not :=
  ⟨f, fd, _, ok_op_not F h_greatest h_answer, g, F.kp, FunD.bindsN F fun _ _ _ _ _ _ us hl => match us, hl with | [_, _, _, _, _], _ => rfl⟩

theorem ok_chosen_bit {f : Addr} {fd : FuncData} (F : FnP K "chosen_bit" s_chosen_bit f fd)  : FnOk P w K mg base CX0 1 f fd ["width", "b"] sp_chosen_bit := by
  refine FunD.ok F sc_chosen_bit (fun vs H Q E h => ?_) (fun cdv A outer s H vs Q E hr h => ?_)
  · obtain ⟨_, _, rfl, _⟩ := h
    rfl
  · obtain ⟨width, b, rfl, pre, hq⟩ := h
    exact cr_fin (
        cr_ret (ce_shl ce_i (ce_mod (ce_v 1 (pv 1) rfl) (ce_v 0 (pv 0) rfl) (by omega)) (cshl 66 (by decide) (emod_nn (by omega)) (emod_le (by omega) (by omega)))) hq)

theorem has_chosen_bit {f : Addr} {fd : FuncData} (F : FnP K "chosen_bit" s_chosen_bit f fd) (g : mg "chosen_bit" = some (.ref f))  : Has P w K mg base "chosen_bit" 1 sp_chosen_bit :=
  ⟨f, fd, _, ok_chosen_bit F , g, F.kp, FunD.bindsN F fun _ _ _ _ _ _ us hl => match us, hl with | [_, _], _ => rfl⟩

theorem ok_bit_flags {f : Addr} {fd : FuncData} (F : FnP K "bit_flags" s_bit_flags f fd) (h_bit : Has P w K mg base "bit" 1 sp_bit) (h_put : Has P w K mg base "put" 1 sp_put) (c_CARRY : Cst mg "CARRY" 1) : FnOk P w K mg base CX0 2 f fd ["width", "a", "b", "flags"] sp_bit_flags := by
  refine FunD.ok F sc_bit_flags (fun vs H Q E h => ?_) (fun cdv A outer s H vs Q E hr h => ?_)
  · obtain ⟨_, _, _, _, rfl, _⟩ := h
    rfl
  · obtain ⟨width, a, b, flags, rfl, pre, hq⟩ := h
    exact cr_fin (
        cr_ret (ce_call h_put (hr.mono (by decide)) rfl (ca_1 (ce_v 3 (pv 3) rfl) (ca_1 (ce_g c_CARRY rfl (by decide)) (ca_1 (ce_cmp op_eq (ce_call h_bit (hr.mono (by decide)) rfl (ca_1 (ce_v 1 (pv 1) rfl) (ca_1 (ce_mod (ce_v 2 (pv 2) rfl) (ce_v 0 (pv 0) rfl) (by omega)) ca_0)) (v_bit (emod_nn (by omega))) (by decide)) ce_i rv_ieq (nomark _)) ca_0))) v_put (by decide)) hq)

theorem has_bit_flags {f : Addr} {fd : FuncData} (F : FnP K "bit_flags" s_bit_flags f fd) (g : mg "bit_flags" = some (.ref f)) (h_bit : Has P w K mg base "bit" 1 sp_bit) (h_put : Has P w K mg base "put" 1 sp_put) (c_CARRY : Cst mg "CARRY" 1) : Has P w K mg base "bit_flags" 2 sp_bit_flags :=
  ⟨f, fd, _, ok_bit_flags F h_bit h_put c_CARRY, g, F.kp, FunD.bindsN F fun _ _ _ _ _ _ us hl => match us, hl with | [_, _, _, _], _ => rfl⟩

theorem ok_op_bt {f : Addr} {fd : FuncData} (F : FnP K "op_bt" s_op_bt f fd) (h_answer : Has P w K mg base "answer" 1 sp_answer) (h_bit_flags : Has P w K mg base "bit_flags" 2 sp_bit_flags) : FnOk P w K mg base CX0 3 f fd ["width", "a", "b", "c", "flags"] sp_op_bt := by
  refine FunD.ok F sc_op_bt (fun vs H Q E h => ?_) (fun cdv A outer s H vs Q E hr h => ?_)
  · obtain ⟨_, _, _, _, _, rfl, _⟩ := h
    rfl
  · obtain ⟨width, a, b, c, flags, rfl, pre, hq⟩ := h
    exact cr_fin (
        cr_retL (cl_call h_answer (hr.mono (by decide)) rfl (ca_1 (ce_v 1 (pv 1) rfl) (ca_1 ce_i (ca_1 (ce_call h_bit_flags (hr.mono (by decide)) rfl (ca_1 (ce_v 0 (pv 0) rfl) (ca_1 (ce_v 1 (pv 1) rfl) (ca_1 (ce_v 2 (pv 2) rfl) (ca_1 (ce_v 4 (pv 4) rfl) ca_0)))) (v_bit_flags (by omega)) (by decide)) ca_0))) v_answer (by decide)) hq)

theorem has_op_bt {f : Addr} {fd : FuncData} (F : FnP K "op_bt" s_op_bt f fd) (g : mg "op_bt" = some (.ref f)) (h_answer : Has P w K mg base "answer" 1 sp_answer) (h_bit_flags : Has P w K mg base "bit_flags" 2 sp_bit_flags) : Has P w K mg base "op_bt" 3 sp_op_bt :=
  ⟨f, fd, _, ok_op_bt F h_answer h_bit_flags, g, F.kp, FunD.bindsN F fun _ _ _ _ _ _ us hl => match us, hl with | [_, _, _, _, _], _ => rfl⟩

theorem ok_op_bts {f : Addr} {fd : FuncData} (F : FnP K "op_bts" s_op_bts f fd) (h_answer : Has P w K mg base "answer" 1 sp_answer) (h_chosen_bit : Has P w K mg base "chosen_bit" 1 sp_chosen_bit) (h_bit_flags : Has P w K mg base "bit_flags" 2 sp_bit_flags) : FnOk P w K mg base CX0 3 f fd ["width", "a", "b", "c", "flags"] sp_op_bts := by
  refine FunD.ok F sc_op_bts (fun vs H Q E h => ?_) (fun cdv A outer s H vs Q E hr h => ?_)
  · obtain ⟨_, _, _, _, _, rfl, _⟩ := h
    rfl
  · obtain ⟨width, a, b, c, flags, rfl, pre, hq⟩ := h
    exact cr_fin (
        cr_retL (cl_call h_answer (hr.mono (by decide)) rfl (ca_1 (ce_or (ce_v 1 (pv 1) rfl) (ce_call h_chosen_bit (hr.mono (by decide)) rfl (ca_1 (ce_v 0 (pv 0) rfl) (ca_1 (ce_v 2 (pv 2) rfl) ca_0)) (v_chosen_bit (by omega)) (by decide))) (ca_1 ce_i (ca_1 (ce_call h_bit_flags (hr.mono (by decide)) rfl (ca_1 (ce_v 0 (pv 0) rfl) (ca_1 (ce_v 1 (pv 1) rfl) (ca_1 (ce_v 2 (pv 2) rfl) (ca_1 (ce_v 4 (pv 4) rfl) ca_0)))) (v_bit_flags (by omega)) (by decide)) ca_0))) v_answer (by decide)) hq)

theorem has_op_bts {f : Addr} {fd : FuncData} (F : FnP K "op_bts" s_op_bts f fd) (g : mg "op_bts" = some (.ref f)) (h_answer : Has P w K mg base "answer" 1 sp_answer) (h_chosen_bit : Has P w K mg base "chosen_bit" 1 sp_chosen_bit) (h_bit_flags : Has P w K mg base "bit_flags" 2 sp_bit_flags) : Has P w K mg base "op_bts" 3 sp_op_bts :=
  ⟨f, fd, _, ok_op_bts F h_answer h_chosen_bit h_bit_flags, g, F.kp, FunD.bindsN F fun _ _ _ _ _ _ us hl => match us, hl with | [_, _, _, _, _], _ => rfl⟩

theorem ok_op_btr {f : Addr} {fd : FuncData} (F : FnP K "op_btr" s_op_btr f fd) (h_answer : Has P w K mg base "answer" 1 sp_answer) (h_chosen_bit : Has P w K mg base "chosen_bit" 1 sp_chosen_bit) (h_bit_flags : Has P w K mg base "bit_flags" 2 sp_bit_flags) : FnOk P w K mg base CX0 3 f fd ["width", "a", "b", "c", "flags"] sp_op_btr := by
  refine FunD.ok F sc_op_btr (fun vs H Q E h => ?_) (fun cdv A outer s H vs Q E hr h => ?_)
  · obtain ⟨_, _, _, _, _, rfl, _⟩ := h
    rfl
  · obtain ⟨width, a, b, c, flags, rfl, pre, hq⟩ := h
    exact cr_fin (
        cr_retL (cl_call h_answer (hr.mono (by decide)) rfl (ca_1 (ce_and (ce_v 1 (pv 1) rfl) (ce_inv (ce_call h_chosen_bit (hr.mono (by decide)) rfl (ca_1 (ce_v 0 (pv 0) rfl) (ca_1 (ce_v 2 (pv 2) rfl) ca_0)) (v_chosen_bit (by omega)) (by decide)))) (ca_1 ce_i (ca_1 (ce_call h_bit_flags (hr.mono (by decide)) rfl (ca_1 (ce_v 0 (pv 0) rfl) (ca_1 (ce_v 1 (pv 1) rfl) (ca_1 (ce_v 2 (pv 2) rfl) (ca_1 (ce_v 4 (pv 4) rfl) ca_0)))) (v_bit_flags (by omega)) (by decide)) ca_0))) v_answer (by decide)) hq)

theorem has_op_btr {f : Addr} {fd : FuncData} (F : FnP K "op_btr" s_op_btr f fd) (g : mg "op_btr" = some (.ref f)) (h_answer : Has P w K mg base "answer" 1 sp_answer) (h_chosen_bit : Has P w K mg base "chosen_bit" 1 sp_chosen_bit) (h_bit_flags : Has P w K mg base "bit_flags" 2 sp_bit_flags) : Has P w K mg base "op_btr" 3 sp_op_btr :=
  ⟨f, fd, _, ok_op_btr F h_answer h_chosen_bit h_bit_flags, g, F.kp, FunD.bindsN F fun _ _ _ _ _ _ us hl => match us, hl with | [_, _, _, _, _], _ => rfl⟩

theorem ok_op_btc {f : Addr} {fd : FuncData} (F : FnP K "op_btc" s_op_btc f fd) (h_answer : Has P w K mg base "answer" 1 sp_answer) (h_chosen_bit : Has P w K mg base "chosen_bit" 1 sp_chosen_bit) (h_bit_flags : Has P w K mg base "bit_flags" 2 sp_bit_flags) : FnOk P w K mg base CX0 3 f fd ["width", "a", "b", "c", "flags"] sp_op_btc := by
  refine FunD.ok F sc_op_btc (fun vs H Q E h => ?_) (fun cdv A outer s H vs Q E hr h => ?_)
  · obtain ⟨_, _, _, _, _, rfl, _⟩ := h
    rfl
  · obtain ⟨width, a, b, c, flags, rfl, pre, hq⟩ := h
    exact cr_fin (
        cr_retL (cl_call h_answer (hr.mono (by decide)) rfl (ca_1 (ce_xor (ce_v 1 (pv 1) rfl) (ce_call h_chosen_bit (hr.mono (by decide)) rfl (ca_1 (ce_v 0 (pv 0) rfl) (ca_1 (ce_v 2 (pv 2) rfl) ca_0)) (v_chosen_bit (by omega)) (by decide))) (ca_1 ce_i (ca_1 (ce_call h_bit_flags (hr.mono (by decide)) rfl (ca_1 (ce_v 0 (pv 0) rfl) (ca_1 (ce_v 1 (pv 1) rfl) (ca_1 (ce_v 2 (pv 2) rfl) (ca_1 (ce_v 4 (pv 4) rfl) ca_0)))) (v_bit_flags (by omega)) (by decide)) ca_0))) v_answer (by decide)) hq)

theorem has_op_btc {f : Addr} {fd : FuncData} (F : FnP K "op_btc" s_op_btc f fd) (g : mg "op_btc" = some (.ref f)) (h_answer : Has P w K mg base "answer" 1 sp_answer) (h_chosen_bit : Has P w K mg base "chosen_bit" 1 sp_chosen_bit) (h_bit_flags : Has P w K mg base "bit_flags" 2 sp_bit_flags) : Has P w K mg base "op_btc" 3 sp_op_btc :=
  ⟨f, fd, _, ok_op_btc F h_answer h_chosen_bit h_bit_flags, g, F.kp, FunD.bindsN F fun _ _ _ _ _ _ us hl => match us, hl with | [_, _, _, _, _], _ => rfl⟩

theorem ok_op_bsf {f : Addr} {fd : FuncData} (F : FnP K "op_bsf" s_op_bsf f fd) (h_put : Has P w K mg base "put" 1 sp_put) (h_answer : Has P w K mg base "answer" 1 sp_answer) (c_ZERO : Cst mg "ZERO" 64) : FnOk P w K mg base CX0 2 f fd ["width", "a", "b", "c", "flags"] sp_op_bsf := by
  refine FunD.ok F sc_op_bsf (fun vs H Q E h => ?_) (fun cdv A outer s H vs Q E hr h => ?_)
  · obtain ⟨_, _, _, _, _, rfl, _⟩ := h
    rfl
  · obtain ⟨width, a, b, c, flags, rfl, pre, hq⟩ := h
    exact cr_fin (
        cr_if (ct_cmp op_eq (ce_v 2 (pv 2) rfl) ce_i rv_ieq (nomark _)) (fun hp1 =>
          cr_retL (cl_call h_answer (hr.mono (by decide)) rfl (ca_1 (ce_v 1 (pv 1) rfl) (ca_1 ce_i (ca_1 (ce_call h_put (hr.mono (by decide)) rfl (ca_1 (ce_v 4 (pv 4) rfl) (ca_1 (ce_g c_ZERO rfl (by decide)) (ca_1 ce_b ca_0))) v_put (by decide)) ca_0))) v_answer (by decide)) (retl_t hp1 hq)) fun hp1 =>
        cr_set (ce_and (ce_v 2 (pv 2) rfl) (ce_neg (ce_v 2 (pv 2) rfl))) (fun _ h => ps_set (i := 5) sc_op_bsf.nd rfl (Or.inl rfl) h) <|
        cr_retL (cl_call h_answer (hr.mono (by decide)) rfl (ca_1 (ce_sub (ce_bits (ce_v 5 (pv 5) rfl)) ce_i) (ca_1 ce_i (ca_1 (ce_call h_put (hr.mono (by decide)) rfl (ca_1 (ce_v 4 (pv 4) rfl) (ca_1 (ce_g c_ZERO rfl (by decide)) (ca_1 ce_b ca_0))) v_put (by decide)) ca_0))) v_answer (by decide)) (retl_f hp1 hq))

theorem has_op_bsf {f : Addr} {fd : FuncData} (F : FnP K "op_bsf" s_op_bsf f fd) (g : mg "op_bsf" = some (.ref f)) (h_put : Has P w K mg base "put" 1 sp_put) (h_answer : Has P w K mg base "answer" 1 sp_answer) (c_ZERO : Cst mg "ZERO" 64) : Has P w K mg base "op_bsf" 2 sp_op_bsf :=
  ⟨f, fd, _, ok_op_bsf F h_put h_answer c_ZERO, g, F.kp, FunD.bindsN F fun _ _ _ _ _ _ us hl => match us, hl with | [_, _, _, _, _], _ => rfl⟩

theorem ok_op_bsr {f : Addr} {fd : FuncData} (F : FnP K "op_bsr" s_op_bsr f fd) (h_put : Has P w K mg base "put" 1 sp_put) (h_answer : Has P w K mg base "answer" 1 sp_answer) (c_ZERO : Cst mg "ZERO" 64) : FnOk P w K mg base CX0 2 f fd ["width", "a", "b", "c", "flags"] sp_op_bsr := by
  refine FunD.ok F sc_op_bsr (fun vs H Q E h => ?_) (fun cdv A outer s H vs Q E hr h => ?_)
  · obtain ⟨_, _, _, _, _, rfl, _⟩ := h
    rfl
  · obtain ⟨width, a, b, c, flags, rfl, pre, hq⟩ := h
    exact cr_fin (
        cr_if (ct_cmp op_eq (ce_v 2 (pv 2) rfl) ce_i rv_ieq (nomark _)) (fun hp1 =>
          cr_retL (cl_call h_answer (hr.mono (by decide)) rfl (ca_1 (ce_v 1 (pv 1) rfl) (ca_1 ce_i (ca_1 (ce_call h_put (hr.mono (by decide)) rfl (ca_1 (ce_v 4 (pv 4) rfl) (ca_1 (ce_g c_ZERO rfl (by decide)) (ca_1 ce_b ca_0))) v_put (by decide)) ca_0))) v_answer (by decide)) (retl_t hp1 hq)) fun hp1 =>
        cr_retL (cl_call h_answer (hr.mono (by decide)) rfl (ca_1 (ce_sub (ce_bits (ce_v 2 (pv 2) rfl)) ce_i) (ca_1 ce_i (ca_1 (ce_call h_put (hr.mono (by decide)) rfl (ca_1 (ce_v 4 (pv 4) rfl) (ca_1 (ce_g c_ZERO rfl (by decide)) (ca_1 ce_b ca_0))) v_put (by decide)) ca_0))) v_answer (by decide)) (retl_f hp1 hq))

theorem has_op_bsr {f : Addr} {fd : FuncData} (F : FnP K "op_bsr" s_op_bsr f fd) (g : mg "op_bsr" = some (.ref f)) (h_put : Has P w K mg base "put" 1 sp_put) (h_answer : Has P w K mg base "answer" 1 sp_answer) (c_ZERO : Cst mg "ZERO" 64) : Has P w K mg base "op_bsr" 2 sp_op_bsr :=
  ⟨f, fd, _, ok_op_bsr F h_put h_answer c_ZERO, g, F.kp, FunD.bindsN F fun _ _ _ _ _ _ us hl => match us, hl with | [_, _, _, _, _], _ => rfl⟩

theorem ok_op_bswap {f : Addr} {fd : FuncData} (F : FnP K "op_bswap" s_op_bswap f fd) (h_answer : Has P w K mg base "answer" 1 sp_answer) (n_range : mg "range" = none) : FnOk P w K mg base CX0 2 f fd ["width", "a", "b", "c", "flags"] sp_op_bswap := by
  refine FunD.ok F sc_op_bswap (fun vs H Q E h => ?_) (fun cdv A outer s H vs Q E hr h => ?_)
  · obtain ⟨_, _, _, _, _, rfl, _⟩ := h
    rfl
  · obtain ⟨width, a, b, c, flags, rfl, pre, hq⟩ := h
    obtain ⟨fb, fdb, psb, Gb, gb, kb, bb⟩ := h_answer
    refine ⟨_, PSs.nox (pss_cons (ps_set (i := 5) sc_op_bswap.nd rfl (Or.inl rfl) pe_int) (pss_cons (ps_for PassesOwn.never rfl (pi_range3 rfl n_range (pa_cons pe_int (pa_cons (pv 0) (pa_cons pe_int pa_nil)))) (pg_name (i := 6) sc_op_bswap.nd rfl (Or.inl rfl))
      (pss_one (ps_set (i := 5) sc_op_bswap.nd rfl (Or.inl rfl) (pe_op op_add (pe_op op_shlW (pv 5) pe_int) (pe_op op_and (pe_op op_shr (pv 1) (pv 6)) pe_int)))))
      (pss_one (ps_ret (pe_call Gb (hr.mono (by decide)) rfl gb kb bb .nil pass0 (pa_cons (pv 5) (pa_cons pe_int (pa_cons (pv 4) pa_nil)))))))), ?_⟩
    refine q_asg ev_c fun H1 e1 => ?_
    have hn : width.toNat / 8 ≤ 8 := by omega
    refine ⟨_, rfl, 0, width, 8, width.toNat / 8, rfl, rg_bytes pre.2.2.2.2, for_rangeC (fun i σ' H' => Ex H H' ∧ ∃ v, σ' = [some (.int width), some (.int a), some (.int b), some (.int c), some (.int flags), some (.int (m_swap a i)), v]) ⟨e1, none, rfl⟩ ?_ ?_⟩
    · rintro i σ' H' hi ⟨e3, v, rfl⟩
      have hs := swap_small (a := a) i
      have hp := pw_le (n := 8 * i) (m := 64) (by omega)
      exact s_asg (ev_op (ev_op (ev_var rfl) ev_c (rv_I (cshl 66 (by omega) (by decide) (by decide)))) (ev_op (ev_op (ev_var rfl) (ev_var rfl) (rv_I (by omega))) ev_c rv_I0) rv_I0) fun H4 e4 => ⟨e3.trans e4, some (.int (0 + (i : Int) * 8)), rfl⟩
    · rintro σ' H' ⟨e3, v, rfl⟩
      exact s_retL (el_call (vs := [.int (m_swap a (width.toNat / 8)), .int 0, .int flags]) (ea_cons (ev_var rfl) (ea_cons ev_c (ea_cons (ev_var rfl) ea_nil))) v_answer) fun p H4 hp e4 h4 => hq p H4 (fresh_back e3 hp) (e3.trans e4) h4

theorem has_op_bswap {f : Addr} {fd : FuncData} (F : FnP K "op_bswap" s_op_bswap f fd) (g : mg "op_bswap" = some (.ref f)) (h_answer : Has P w K mg base "answer" 1 sp_answer) (n_range : mg "range" = none) : Has P w K mg base "op_bswap" 2 sp_op_bswap :=
  ⟨f, fd, _, ok_op_bswap F h_answer n_range, g, F.kp, FunD.bindsN F fun _ _ _ _ _ _ us hl => match us, hl with | [_, _, _, _, _], _ => rfl⟩

theorem ok_op_clc {f : Addr} {fd : FuncData} (F : FnP K "op_clc" s_op_clc f fd) (h_put : Has P w K mg base "put" 1 sp_put) (h_answer : Has P w K mg base "answer" 1 sp_answer) (c_CARRY : Cst mg "CARRY" 1) : FnOk P w K mg base CX0 2 f fd ["width", "a", "b", "c", "flags"] sp_op_clc := by
  refine FunD.ok F sc_op_clc (fun vs H Q E h => ?_) (fun cdv A outer s H vs Q E hr h => ?_)
  · obtain ⟨_, _, _, _, _, rfl, _⟩ := h
    rfl
  · obtain ⟨width, a, b, c, flags, rfl, pre, hq⟩ := h
    exact cr_fin (
        cr_retL (cl_call h_answer (hr.mono (by decide)) rfl (ca_1 (ce_v 1 (pv 1) rfl) (ca_1 ce_i (ca_1 (ce_call h_put (hr.mono (by decide)) rfl (ca_1 (ce_v 4 (pv 4) rfl) (ca_1 (ce_g c_CARRY rfl (by decide)) (ca_1 ce_b ca_0))) v_put (by decide)) ca_0))) v_answer (by decide)) hq)

theorem has_op_clc {f : Addr} {fd : FuncData} (F : FnP K "op_clc" s_op_clc f fd) (g : mg "op_clc" = some (.ref f)) (h_put : Has P w K mg base "put" 1 sp_put) (h_answer : Has P w K mg base "answer" 1 sp_answer) (c_CARRY : Cst mg "CARRY" 1) : Has P w K mg base "op_clc" 2 sp_op_clc :=
  ⟨f, fd, _, ok_op_clc F h_put h_answer c_CARRY, g, F.kp, FunD.bindsN F fun _ _ _ _ _ _ us hl => match us, hl with | [_, _, _, _, _], _ => rfl⟩

theorem ok_op_stc {f : Addr} {fd : FuncData} (F : FnP K "op_stc" s_op_stc f fd) (h_put : Has P w K mg base "put" 1 sp_put) (h_answer : Has P w K mg base "answer" 1 sp_answer) (c_CARRY : Cst mg "CARRY" 1) : FnOk P w K mg base CX0 2 f fd ["width", "a", "b", "c", "flags"] sp_op_stc := by
  refine FunD.ok F sc_op_stc (fun vs H Q E h => ?_) (fun cdv A outer s H vs Q E hr h => ?_)
  · obtain ⟨_, _, _, _, _, rfl, _⟩ := h
    rfl
  · obtain ⟨width, a, b, c, flags, rfl, pre, hq⟩ := h
    exact cr_fin (
        cr_retL (cl_call h_answer (hr.mono (by decide)) rfl (ca_1 (ce_v 1 (pv 1) rfl) (ca_1 ce_i (ca_1 (ce_call h_put (hr.mono (by decide)) rfl (ca_1 (ce_v 4 (pv 4) rfl) (ca_1 (ce_g c_CARRY rfl (by decide)) (ca_1 ce_b ca_0))) v_put (by decide)) ca_0))) v_answer (by decide)) hq)

theorem has_op_stc {f : Addr} {fd : FuncData} (F : FnP K "op_stc" s_op_stc f fd) (g : mg "op_stc" = some (.ref f)) (h_put : Has P w K mg base "put" 1 sp_put) (h_answer : Has P w K mg base "answer" 1 sp_answer) (c_CARRY : Cst mg "CARRY" 1) : Has P w K mg base "op_stc" 2 sp_op_stc :=
  ⟨f, fd, _, ok_op_stc F h_put h_answer c_CARRY, g, F.kp, FunD.bindsN F fun _ _ _ _ _ _ us hl => match us, hl with | [_, _, _, _, _], _ => rfl⟩

theorem ok_op_cmc {f : Addr} {fd : FuncData} (F : FnP K "op_cmc" s_op_cmc f fd) (h_carry_of : Has P w K mg base "carry_of" 1 sp_carry_of) (h_put : Has P w K mg base "put" 1 sp_put) (h_answer : Has P w K mg base "answer" 1 sp_answer) (c_CARRY : Cst mg "CARRY" 1) : FnOk P w K mg base CX0 2 f fd ["width", "a", "b", "c", "flags"] sp_op_cmc := by
  refine FunD.ok F sc_op_cmc (fun vs H Q E h => ?_) (fun cdv A outer s H vs Q E hr h => ?_)
  · obtain ⟨_, _, _, _, _, rfl, _⟩ := h
    rfl
  · obtain ⟨width, a, b, c, flags, rfl, pre, hq⟩ := h
    exact cr_fin (
        cr_retL (cl_call h_answer (hr.mono (by decide)) rfl (ca_1 (ce_v 1 (pv 1) rfl) (ca_1 ce_i (ca_1 (ce_call h_put (hr.mono (by decide)) rfl (ca_1 (ce_v 4 (pv 4) rfl) (ca_1 (ce_g c_CARRY rfl (by decide)) (ca_1 (ce_cmp op_eq (ce_call h_carry_of (hr.mono (by decide)) rfl (ca_1 (ce_v 4 (pv 4) rfl) ca_0) v_carry_of (by decide)) ce_i rv_ieq (nomark _)) ca_0))) v_put (by decide)) ca_0))) v_answer (by decide)) hq)

theorem has_op_cmc {f : Addr} {fd : FuncData} (F : FnP K "op_cmc" s_op_cmc f fd) (g : mg "op_cmc" = some (.ref f)) (h_carry_of : Has P w K mg base "carry_of" 1 sp_carry_of) (h_put : Has P w K mg base "put" 1 sp_put) (h_answer : Has P w K mg base "answer" 1 sp_answer) (c_CARRY : Cst mg "CARRY" 1) : Has P w K mg base "op_cmc" 2 sp_op_cmc :=
  ⟨f, fd, _, ok_op_cmc F h_carry_of h_put h_answer c_CARRY, g, F.kp, FunD.bindsN F fun _ _ _ _ _ _ us hl => match us, hl with | [_, _, _, _, _], _ => rfl⟩

theorem ok_run_place {f : Addr} {fd : FuncData} (F : FnP K "run_place" s_run_place f fd) (h_op_and : Has P w K mg base "op_and" 5 sp_op_and) (h_op_or : Has P w K mg base "op_or" 5 sp_op_or) (h_op_xor : Has P w K mg base "op_xor" 5 sp_op_xor) (h_op_test : Has P w K mg base "op_test" 5 sp_op_test) (h_op_not : Has P w K mg base "op_not" 2 sp_op_not) (h_op_bt : Has P w K mg base "op_bt" 3 sp_op_bt) (h_op_bts : Has P w K mg base "op_bts" 3 sp_op_bts) (h_op_btr : Has P w K mg base "op_btr" 3 sp_op_btr) (h_op_btc : Has P w K mg base "op_btc" 3 sp_op_btc) (h_op_bsf : Has P w K mg base "op_bsf" 2 sp_op_bsf) (h_op_bsr : Has P w K mg base "op_bsr" 2 sp_op_bsr) (h_op_bswap : Has P w K mg base "op_bswap" 2 sp_op_bswap) (h_op_clc : Has P w K mg base "op_clc" 2 sp_op_clc) (h_op_stc : Has P w K mg base "op_stc" 2 sp_op_stc) (h_op_cmc : Has P w K mg base "op_cmc" 2 sp_op_cmc) (t_PLACE_STEPS : Tab mg K "PLACE_STEPS" [(8, "op_and"), (9, "op_or"), (10, "op_xor"), (11, "op_test"), (12, "op_not"), (26, "op_bt"), (27, "op_bts"), (28, "op_btr"), (29, "op_btc"), (30, "op_bsf"), (31, "op_bsr"), (32, "op_bswap"), (35, "op_clc"), (36, "op_stc"), (37, "op_cmc")]) : FnOk P w K mg base CX0 6 f fd ["op", "width", "a", "b", "c", "flags"] sp_run_place := by
  refine FunD.ok F sc_run_place (fun vs H Q E h => ?_) (fun cdv A outer s H vs Q E hr h => ?_)
  · obtain ⟨_, _, _, _, _, _, rfl, _⟩ := h
    rfl
  · obtain ⟨op, width, a, b, c, flags, rfl, pre, hq⟩ := h
    have hop : op = 8 ∨ op = 9 ∨ op = 10 ∨ op = 11 ∨ op = 12 ∨ op = 26 ∨ op = 27 ∨ op = 28 ∨ op = 29 ∨ op = 30 ∨ op = 31 ∨ op = 32 ∨ op = 35 ∨ op = 36 ∨ op = 37 := by omega
    refine cr_fin ?_
    rcases hop with rfl | rfl | rfl | rfl | rfl | rfl | rfl | rfl | rfl | rfl | rfl | rfl | rfl | rfl | rfl
    · exact cr_step (n := 6) (i := 8) (y := "op_and") t_PLACE_STEPS (by decide) h_op_and (hr.mono (by decide)) (v_op_and pre.2) (pv 6) (ce_v 0 (pv 0) rfl) (fun _ => rfl) (fun _ h => ps_set (i := 6) sc_run_place.nd rfl (Or.inl rfl) h) (fun _ => (ca_1 (ce_v 1 (pv 1) rfl) (ca_1 (ce_v 2 (pv 2) rfl) (ca_1 (ce_v 3 (pv 3) rfl) (ca_1 (ce_v 4 (pv 4) rfl) (ca_1 (ce_v 5 (pv 5) rfl) ca_0)))))) hq
    · exact cr_step (n := 6) (i := 9) (y := "op_or") t_PLACE_STEPS (by decide) h_op_or (hr.mono (by decide)) (v_op_or pre.2) (pv 6) (ce_v 0 (pv 0) rfl) (fun _ => rfl) (fun _ h => ps_set (i := 6) sc_run_place.nd rfl (Or.inl rfl) h) (fun _ => (ca_1 (ce_v 1 (pv 1) rfl) (ca_1 (ce_v 2 (pv 2) rfl) (ca_1 (ce_v 3 (pv 3) rfl) (ca_1 (ce_v 4 (pv 4) rfl) (ca_1 (ce_v 5 (pv 5) rfl) ca_0)))))) hq
    · exact cr_step (n := 6) (i := 10) (y := "op_xor") t_PLACE_STEPS (by decide) h_op_xor (hr.mono (by decide)) (v_op_xor pre.2) (pv 6) (ce_v 0 (pv 0) rfl) (fun _ => rfl) (fun _ h => ps_set (i := 6) sc_run_place.nd rfl (Or.inl rfl) h) (fun _ => (ca_1 (ce_v 1 (pv 1) rfl) (ca_1 (ce_v 2 (pv 2) rfl) (ca_1 (ce_v 3 (pv 3) rfl) (ca_1 (ce_v 4 (pv 4) rfl) (ca_1 (ce_v 5 (pv 5) rfl) ca_0)))))) hq
    · exact cr_step (n := 6) (i := 11) (y := "op_test") t_PLACE_STEPS (by decide) h_op_test (hr.mono (by decide)) (v_op_test pre.2) (pv 6) (ce_v 0 (pv 0) rfl) (fun _ => rfl) (fun _ h => ps_set (i := 6) sc_run_place.nd rfl (Or.inl rfl) h) (fun _ => (ca_1 (ce_v 1 (pv 1) rfl) (ca_1 (ce_v 2 (pv 2) rfl) (ca_1 (ce_v 3 (pv 3) rfl) (ca_1 (ce_v 4 (pv 4) rfl) (ca_1 (ce_v 5 (pv 5) rfl) ca_0)))))) hq
    · exact cr_step (n := 6) (i := 12) (y := "op_not") t_PLACE_STEPS (by decide) h_op_not (hr.mono (by decide)) (v_op_not pre.2) (pv 6) (ce_v 0 (pv 0) rfl) (fun _ => rfl) (fun _ h => ps_set (i := 6) sc_run_place.nd rfl (Or.inl rfl) h) (fun _ => (ca_1 (ce_v 1 (pv 1) rfl) (ca_1 (ce_v 2 (pv 2) rfl) (ca_1 (ce_v 3 (pv 3) rfl) (ca_1 (ce_v 4 (pv 4) rfl) (ca_1 (ce_v 5 (pv 5) rfl) ca_0)))))) hq
    · exact cr_step (n := 6) (i := 26) (y := "op_bt") t_PLACE_STEPS (by decide) h_op_bt (hr.mono (by decide)) (v_op_bt pre.2) (pv 6) (ce_v 0 (pv 0) rfl) (fun _ => rfl) (fun _ h => ps_set (i := 6) sc_run_place.nd rfl (Or.inl rfl) h) (fun _ => (ca_1 (ce_v 1 (pv 1) rfl) (ca_1 (ce_v 2 (pv 2) rfl) (ca_1 (ce_v 3 (pv 3) rfl) (ca_1 (ce_v 4 (pv 4) rfl) (ca_1 (ce_v 5 (pv 5) rfl) ca_0)))))) hq
    · exact cr_step (n := 6) (i := 27) (y := "op_bts") t_PLACE_STEPS (by decide) h_op_bts (hr.mono (by decide)) (v_op_bts pre.2) (pv 6) (ce_v 0 (pv 0) rfl) (fun _ => rfl) (fun _ h => ps_set (i := 6) sc_run_place.nd rfl (Or.inl rfl) h) (fun _ => (ca_1 (ce_v 1 (pv 1) rfl) (ca_1 (ce_v 2 (pv 2) rfl) (ca_1 (ce_v 3 (pv 3) rfl) (ca_1 (ce_v 4 (pv 4) rfl) (ca_1 (ce_v 5 (pv 5) rfl) ca_0)))))) hq
    · exact cr_step (n := 6) (i := 28) (y := "op_btr") t_PLACE_STEPS (by decide) h_op_btr (hr.mono (by decide)) (v_op_btr pre.2) (pv 6) (ce_v 0 (pv 0) rfl) (fun _ => rfl) (fun _ h => ps_set (i := 6) sc_run_place.nd rfl (Or.inl rfl) h) (fun _ => (ca_1 (ce_v 1 (pv 1) rfl) (ca_1 (ce_v 2 (pv 2) rfl) (ca_1 (ce_v 3 (pv 3) rfl) (ca_1 (ce_v 4 (pv 4) rfl) (ca_1 (ce_v 5 (pv 5) rfl) ca_0)))))) hq
    · exact cr_step (n := 6) (i := 29) (y := "op_btc") t_PLACE_STEPS (by decide) h_op_btc (hr.mono (by decide)) (v_op_btc pre.2) (pv 6) (ce_v 0 (pv 0) rfl) (fun _ => rfl) (fun _ h => ps_set (i := 6) sc_run_place.nd rfl (Or.inl rfl) h) (fun _ => (ca_1 (ce_v 1 (pv 1) rfl) (ca_1 (ce_v 2 (pv 2) rfl) (ca_1 (ce_v 3 (pv 3) rfl) (ca_1 (ce_v 4 (pv 4) rfl) (ca_1 (ce_v 5 (pv 5) rfl) ca_0)))))) hq
    · exact cr_step (n := 6) (i := 30) (y := "op_bsf") t_PLACE_STEPS (by decide) h_op_bsf (hr.mono (by decide)) (v_op_bsf pre.2) (pv 6) (ce_v 0 (pv 0) rfl) (fun _ => rfl) (fun _ h => ps_set (i := 6) sc_run_place.nd rfl (Or.inl rfl) h) (fun _ => (ca_1 (ce_v 1 (pv 1) rfl) (ca_1 (ce_v 2 (pv 2) rfl) (ca_1 (ce_v 3 (pv 3) rfl) (ca_1 (ce_v 4 (pv 4) rfl) (ca_1 (ce_v 5 (pv 5) rfl) ca_0)))))) hq
    · exact cr_step (n := 6) (i := 31) (y := "op_bsr") t_PLACE_STEPS (by decide) h_op_bsr (hr.mono (by decide)) (v_op_bsr pre.2) (pv 6) (ce_v 0 (pv 0) rfl) (fun _ => rfl) (fun _ h => ps_set (i := 6) sc_run_place.nd rfl (Or.inl rfl) h) (fun _ => (ca_1 (ce_v 1 (pv 1) rfl) (ca_1 (ce_v 2 (pv 2) rfl) (ca_1 (ce_v 3 (pv 3) rfl) (ca_1 (ce_v 4 (pv 4) rfl) (ca_1 (ce_v 5 (pv 5) rfl) ca_0)))))) hq
    · exact cr_step (n := 6) (i := 32) (y := "op_bswap") t_PLACE_STEPS (by decide) h_op_bswap (hr.mono (by decide)) (v_op_bswap pre.2) (pv 6) (ce_v 0 (pv 0) rfl) (fun _ => rfl) (fun _ h => ps_set (i := 6) sc_run_place.nd rfl (Or.inl rfl) h) (fun _ => (ca_1 (ce_v 1 (pv 1) rfl) (ca_1 (ce_v 2 (pv 2) rfl) (ca_1 (ce_v 3 (pv 3) rfl) (ca_1 (ce_v 4 (pv 4) rfl) (ca_1 (ce_v 5 (pv 5) rfl) ca_0)))))) hq
    · exact cr_step (n := 6) (i := 35) (y := "op_clc") t_PLACE_STEPS (by decide) h_op_clc (hr.mono (by decide)) (v_op_clc pre.2) (pv 6) (ce_v 0 (pv 0) rfl) (fun _ => rfl) (fun _ h => ps_set (i := 6) sc_run_place.nd rfl (Or.inl rfl) h) (fun _ => (ca_1 (ce_v 1 (pv 1) rfl) (ca_1 (ce_v 2 (pv 2) rfl) (ca_1 (ce_v 3 (pv 3) rfl) (ca_1 (ce_v 4 (pv 4) rfl) (ca_1 (ce_v 5 (pv 5) rfl) ca_0)))))) hq
    · exact cr_step (n := 6) (i := 36) (y := "op_stc") t_PLACE_STEPS (by decide) h_op_stc (hr.mono (by decide)) (v_op_stc pre.2) (pv 6) (ce_v 0 (pv 0) rfl) (fun _ => rfl) (fun _ h => ps_set (i := 6) sc_run_place.nd rfl (Or.inl rfl) h) (fun _ => (ca_1 (ce_v 1 (pv 1) rfl) (ca_1 (ce_v 2 (pv 2) rfl) (ca_1 (ce_v 3 (pv 3) rfl) (ca_1 (ce_v 4 (pv 4) rfl) (ca_1 (ce_v 5 (pv 5) rfl) ca_0)))))) hq
    · exact cr_step (n := 6) (i := 37) (y := "op_cmc") t_PLACE_STEPS (by decide) h_op_cmc (hr.mono (by decide)) (v_op_cmc pre.2) (pv 6) (ce_v 0 (pv 0) rfl) (fun _ => rfl) (fun _ h => ps_set (i := 6) sc_run_place.nd rfl (Or.inl rfl) h) (fun _ => (ca_1 (ce_v 1 (pv 1) rfl) (ca_1 (ce_v 2 (pv 2) rfl) (ca_1 (ce_v 3 (pv 3) rfl) (ca_1 (ce_v 4 (pv 4) rfl) (ca_1 (ce_v 5 (pv 5) rfl) ca_0)))))) hq

theorem has_run_place {f : Addr} {fd : FuncData} (F : FnP K "run_place" s_run_place f fd) (g : mg "run_place" = some (.ref f)) (h_op_and : Has P w K mg base "op_and" 5 sp_op_and) (h_op_or : Has P w K mg base "op_or" 5 sp_op_or) (h_op_xor : Has P w K mg base "op_xor" 5 sp_op_xor) (h_op_test : Has P w K mg base "op_test" 5 sp_op_test) (h_op_not : Has P w K mg base "op_not" 2 sp_op_not) (h_op_bt : Has P w K mg base "op_bt" 3 sp_op_bt) (h_op_bts : Has P w K mg base "op_bts" 3 sp_op_bts) (h_op_btr : Has P w K mg base "op_btr" 3 sp_op_btr) (h_op_btc : Has P w K mg base "op_btc" 3 sp_op_btc) (h_op_bsf : Has P w K mg base "op_bsf" 2 sp_op_bsf) (h_op_bsr : Has P w K mg base "op_bsr" 2 sp_op_bsr) (h_op_bswap : Has P w K mg base "op_bswap" 2 sp_op_bswap) (h_op_clc : Has P w K mg base "op_clc" 2 sp_op_clc) (h_op_stc : Has P w K mg base "op_stc" 2 sp_op_stc) (h_op_cmc : Has P w K mg base "op_cmc" 2 sp_op_cmc) (t_PLACE_STEPS : Tab mg K "PLACE_STEPS" [(8, "op_and"), (9, "op_or"), (10, "op_xor"), (11, "op_test"), (12, "op_not"), (26, "op_bt"), (27, "op_bts"), (28, "op_btr"), (29, "op_btc"), (30, "op_bsf"), (31, "op_bsr"), (32, "op_bswap"), (35, "op_clc"), (36, "op_stc"), (37, "op_cmc")]) : Has P w K mg base "run_place" 6 sp_run_place :=
  ⟨f, fd, _, ok_run_place F h_op_and h_op_or h_op_xor h_op_test h_op_not h_op_bt h_op_bts h_op_btr h_op_btc h_op_bsf h_op_bsr h_op_bswap h_op_clc h_op_stc h_op_cmc t_PLACE_STEPS, g, F.kp, FunD.bindsN F fun _ _ _ _ _ _ us hl => match us, hl with | [_, _, _, _, _, _], _ => rfl⟩

theorem ok_product_answer {f : Addr} {fd : FuncData} (F : FnP K "product_answer" s_product_answer f fd) (h_greatest : Has P w K mg base "greatest" 1 sp_greatest) (h_put : Has P w K mg base "put" 1 sp_put) (h_answer : Has P w K mg base "answer" 1 sp_answer) (c_CARRY : Cst mg "CARRY" 1) (c_OVERFLOW : Cst mg "OVERFLOW" 2048) : FnOk P w K mg base CX0 2 f fd ["width", "product", "is_long", "flags"] sp_product_answer := by
  refine FunD.ok F sc_product_answer (fun vs H Q E h => ?_) (fun cdv A outer s H vs Q E hr h => ?_)
  · obtain ⟨_, _, _, _, rfl, _⟩ := h
    rfl
  · obtain ⟨width, product, is_long, flags, rfl, pre, hq⟩ := h
    exact cr_fin (
        cr_set (ce_and (ce_v 1 (pv 1) rfl) (ce_call h_greatest (hr.mono (by decide)) rfl (ca_1 (ce_v 0 (pv 0) rfl) ca_0) (v_greatest (by omega)) (by decide))) (fun _ h => ps_set (i := 4) sc_product_answer.nd rfl (Or.inl rfl) h) <|
        cr_set (ce_and (ce_shr (ce_v 1 (pv 1) rfl) (ce_v 0 (pv 0) rfl) (by omega)) (ce_call h_greatest (hr.mono (by decide)) rfl (ca_1 (ce_v 0 (pv 0) rfl) ca_0) (v_greatest (by omega)) (by decide))) (fun _ h => ps_set (i := 5) sc_product_answer.nd rfl (Or.inl rfl) h) <|
        cr_set (ce_call h_put (hr.mono (by decide)) rfl (ca_1 (ce_v 3 (pv 3) rfl) (ca_1 (ce_g c_CARRY rfl (by decide)) (ca_1 (ce_v 2 (pv 2) rfl) ca_0))) v_put (by decide)) (fun _ h => ps_set (i := 6) sc_product_answer.nd rfl (Or.inl rfl) h) <|
        cr_set (ce_call h_put (hr.mono (by decide)) rfl (ca_1 (ce_v 6 (pv 6) rfl) (ca_1 (ce_g c_OVERFLOW rfl (by decide)) (ca_1 (ce_v 2 (pv 2) rfl) ca_0))) v_put (by decide)) (fun _ h => ps_set (i := 6) sc_product_answer.nd rfl (Or.inl rfl) h) <|
        cr_retL (cl_call h_answer (hr.mono (by decide)) rfl (ca_1 (ce_v 4 (pv 4) rfl) (ca_1 (ce_v 5 (pv 5) rfl) (ca_1 (ce_v 6 (pv 6) rfl) ca_0))) v_answer (by decide)) hq)

theorem has_product_answer {f : Addr} {fd : FuncData} (F : FnP K "product_answer" s_product_answer f fd) (g : mg "product_answer" = some (.ref f)) (h_greatest : Has P w K mg base "greatest" 1 sp_greatest) (h_put : Has P w K mg base "put" 1 sp_put) (h_answer : Has P w K mg base "answer" 1 sp_answer) (c_CARRY : Cst mg "CARRY" 1) (c_OVERFLOW : Cst mg "OVERFLOW" 2048) : Has P w K mg base "product_answer" 2 sp_product_answer :=
  ⟨f, fd, _, ok_product_answer F h_greatest h_put h_answer c_CARRY c_OVERFLOW, g, F.kp, FunD.bindsN F fun _ _ _ _ _ _ us hl => match us, hl with | [_, _, _, _], _ => rfl⟩

theorem ok_op_mul {f : Addr} {fd : FuncData} (F : FnP K "op_mul" s_op_mul f fd) (h_greatest : Has P w K mg base "greatest" 1 sp_greatest) (h_product_answer : Has P w K mg base "product_answer" 2 sp_product_answer) : FnOk P w K mg base CX0 3 f fd ["width", "a", "b", "c", "flags"] sp_op_mul := by
  refine FunD.ok F sc_op_mul (fun vs H Q E h => ?_) (fun cdv A outer s H vs Q E hr h => ?_)
  · obtain ⟨_, _, _, _, _, rfl, _⟩ := h
    rfl
  · obtain ⟨width, a, b, c, flags, rfl, pre, hq⟩ := h
    exact cr_fin (
        cr_set (ce_mul (ce_v 1 (pv 1) rfl) (ce_v 2 (pv 2) rfl) (wide_mul (a := 66) (b := 66) (by omega) (by omega) (by decide) (by decide) (by decide))) (fun _ h => ps_set (i := 5) sc_op_mul.nd rfl (Or.inl rfl) h) <|
        cr_retL (cl_call h_product_answer (hr.mono (by decide)) rfl (ca_1 (ce_v 0 (pv 0) rfl) (ca_1 (ce_v 5 (pv 5) rfl) (ca_1 (ce_cmp op_gt (ce_v 5 (pv 5) rfl) (ce_call h_greatest (hr.mono (by decide)) rfl (ca_1 (ce_v 0 (pv 0) rfl) ca_0) (v_greatest (by omega)) (by decide)) rv_I0 (nomark _)) (ca_1 (ce_v 4 (pv 4) rfl) ca_0)))) (v_product_answer (by omega)) (by decide)) hq)

theorem has_op_mul {f : Addr} {fd : FuncData} (F : FnP K "op_mul" s_op_mul f fd) (g : mg "op_mul" = some (.ref f)) (h_greatest : Has P w K mg base "greatest" 1 sp_greatest) (h_product_answer : Has P w K mg base "product_answer" 2 sp_product_answer) : Has P w K mg base "op_mul" 3 sp_op_mul :=
  ⟨f, fd, _, ok_op_mul F h_greatest h_product_answer, g, F.kp, FunD.bindsN F fun _ _ _ _ _ _ us hl => match us, hl with | [_, _, _, _, _], _ => rfl⟩

theorem ok_op_imul {f : Addr} {fd : FuncData} (F : FnP K "op_imul" s_op_imul f fd) (h_signed : Has P w K mg base "signed" 2 sp_signed) (h_fits_signed : Has P w K mg base "fits_signed" 1 sp_fits_signed) (h_product_answer : Has P w K mg base "product_answer" 2 sp_product_answer) : FnOk P w K mg base CX0 3 f fd ["width", "a", "b", "c", "flags"] sp_op_imul := by
  refine FunD.ok F sc_op_imul (fun vs H Q E h => ?_) (fun cdv A outer s H vs Q E hr h => ?_)
  · obtain ⟨_, _, _, _, _, rfl, _⟩ := h
    rfl
  · obtain ⟨width, a, b, c, flags, rfl, pre, hq⟩ := h
    exact cr_fin (
        cr_set (ce_mul (ce_call h_signed (hr.mono (by decide)) rfl (ca_1 (ce_v 1 (pv 1) rfl) (ca_1 (ce_v 0 (pv 0) rfl) ca_0)) (v_signed (by omega)) (by decide)) (ce_call h_signed (hr.mono (by decide)) rfl (ca_1 (ce_v 2 (pv 2) rfl) (ca_1 (ce_v 0 (pv 0) rfl) ca_0)) (v_signed (by omega)) (by decide)) (wide_mul (a := 66) (b := 66) (signed_small (by omega) (by omega)) (signed_small (by omega) (by omega)) (by decide) (by decide) (by decide))) (fun _ h => ps_set (i := 5) sc_op_imul.nd rfl (Or.inl rfl) h) <|
        cr_retL (cl_call h_product_answer (hr.mono (by decide)) rfl (ca_1 (ce_v 0 (pv 0) rfl) (ca_1 (ce_v 5 (pv 5) rfl) (ca_1 (ce_not (ce_call h_fits_signed (hr.mono (by decide)) rfl (ca_1 (ce_v 5 (pv 5) rfl) (ca_1 (ce_v 0 (pv 0) rfl) ca_0)) (v_fits_signed (by omega)) (by decide))) (ca_1 (ce_v 4 (pv 4) rfl) ca_0)))) (v_product_answer (by omega)) (by decide)) hq)

theorem has_op_imul {f : Addr} {fd : FuncData} (F : FnP K "op_imul" s_op_imul f fd) (g : mg "op_imul" = some (.ref f)) (h_signed : Has P w K mg base "signed" 2 sp_signed) (h_fits_signed : Has P w K mg base "fits_signed" 1 sp_fits_signed) (h_product_answer : Has P w K mg base "product_answer" 2 sp_product_answer) : Has P w K mg base "op_imul" 3 sp_op_imul :=
  ⟨f, fd, _, ok_op_imul F h_signed h_fits_signed h_product_answer, g, F.kp, FunD.bindsN F fun _ _ _ _ _ _ us hl => match us, hl with | [_, _, _, _, _], _ => rfl⟩

theorem ok_op_div {f : Addr} {fd : FuncData} (F : FnP K "op_div" s_op_div f fd) (h_answer : Has P w K mg base "answer" 1 sp_answer) : FnOk P w K mg base CX0 2 f fd ["width", "a", "b", "c", "flags"] sp_op_div := by
  refine FunD.ok F sc_op_div (fun vs H Q E h => ?_) (fun cdv A outer s H vs Q E hr h => ?_)
  · obtain ⟨_, _, _, _, _, rfl, _⟩ := h
    rfl
  · obtain ⟨width, a, b, c, flags, rfl, pre, hq⟩ := h
    exact cr_fin (
        cr_if (ct_cmp op_ge (ce_v 3 (pv 3) rfl) (ce_v 2 (pv 2) rfl) rv_I0 (nomark _)) (fun hp1 =>
          cr_retL (cl_lst (ca_1 (ce_neg ce_i) ca_0) (by exact (by decide : 1 ≤ 100000))) (retl_t hp1 hq)) fun hp1 =>
        cr_set (ce_add (ce_shl (ce_v 3 (pv 3) rfl) (ce_v 0 (pv 0) rfl) (cshl 66 (by omega) (by omega) (by omega))) (ce_v 1 (pv 1) rfl)) (fun _ h => ps_set (i := 5) sc_op_div.nd rfl (Or.inl rfl) h) <|
        cr_retL (cl_call h_answer (hr.mono (by decide)) rfl (ca_1 (ce_div (ce_v 5 (pv 5) rfl) (ce_v 2 (pv 2) rfl) (wide_div (b := 66) (by have := of_decide_eq_false hp1; omega) (by omega) (by decide) (by decide))) (ca_1 (ce_mod (ce_v 5 (pv 5) rfl) (ce_v 2 (pv 2) rfl) (by have := of_decide_eq_false hp1; omega)) (ca_1 (ce_v 4 (pv 4) rfl) ca_0))) v_answer (by decide)) (retl_f hp1 hq))

theorem has_op_div {f : Addr} {fd : FuncData} (F : FnP K "op_div" s_op_div f fd) (g : mg "op_div" = some (.ref f)) (h_answer : Has P w K mg base "answer" 1 sp_answer) : Has P w K mg base "op_div" 2 sp_op_div :=
  ⟨f, fd, _, ok_op_div F h_answer, g, F.kp, FunD.bindsN F fun _ _ _ _ _ _ us hl => match us, hl with | [_, _, _, _, _], _ => rfl⟩

theorem ok_cut_quotient {f : Addr} {fd : FuncData} (F : FnP K "cut_quotient" s_cut_quotient f fd) (n_abs : mg "abs" = none) : FnOk P w K mg base CX0 1 f fd ["dividend", "divisor"] sp_cut_quotient := by
  refine FunD.ok F sc_cut_quotient (fun vs H Q E h => ?_) (fun cdv A outer s H vs Q E hr h => ?_)
  · obtain ⟨_, _, rfl, _⟩ := h
    rfl
  · obtain ⟨dividend, divisor, rfl, pre, hq⟩ := h
    exact cr_fin (
        cr_set (ce_div (ce_abs n_abs rfl (ca_1 (ce_v 0 (pv 0) rfl) ca_0)) (ce_abs n_abs rfl (ca_1 (ce_v 1 (pv 1) rfl) ca_0)) (wide_div (b := 66) (by split <;> omega) (by split <;> omega) (by decide) (by decide))) (fun _ h => ps_set (i := 2) sc_cut_quotient.nd rfl (Or.inl rfl) h) <|
        cr_if (ct_cmp op_ne (ce_cmp op_lt (ce_v 0 (pv 0) rfl) ce_i rv_I0 (nomark _)) (ce_cmp op_lt (ce_v 1 (pv 1) rfl) ce_i rv_I0 (nomark _)) rv_bne (nomark _)) (fun hp1 =>
          cr_ret (ce_neg (ce_v 2 (pv 2) rfl)) (retv_t hp1 hq)) fun hp1 =>
        cr_ret (ce_v 2 (pv 2) rfl) (retv_f hp1 hq))

theorem has_cut_quotient {f : Addr} {fd : FuncData} (F : FnP K "cut_quotient" s_cut_quotient f fd) (g : mg "cut_quotient" = some (.ref f)) (n_abs : mg "abs" = none) : Has P w K mg base "cut_quotient" 1 sp_cut_quotient :=
  ⟨f, fd, _, ok_cut_quotient F n_abs, g, F.kp, FunD.bindsN F fun _ _ _ _ _ _ us hl => match us, hl with | [_, _], _ => rfl⟩

theorem ok_op_idiv {f : Addr} {fd : FuncData} (F : FnP K "op_idiv" s_op_idiv f fd) (h_greatest : Has P w K mg base "greatest" 1 sp_greatest) (h_signed : Has P w K mg base "signed" 2 sp_signed) (h_fits_signed : Has P w K mg base "fits_signed" 1 sp_fits_signed) (h_answer : Has P w K mg base "answer" 1 sp_answer) (h_cut_quotient : Has P w K mg base "cut_quotient" 1 sp_cut_quotient) : FnOk P w K mg base CX0 3 f fd ["width", "a", "b", "c", "flags"] sp_op_idiv := by
  refine FunD.ok F sc_op_idiv (fun vs H Q E h => ?_) (fun cdv A outer s H vs Q E hr h => ?_)
  · obtain ⟨_, _, _, _, _, rfl, _⟩ := h
    rfl
  · obtain ⟨width, a, b, c, flags, rfl, pre, hq⟩ := h
    exact cr_fin (
        cr_if (ct_cmp op_eq (ce_v 2 (pv 2) rfl) ce_i rv_ieq (nomark _)) (fun hp1 =>
          cr_retL (cl_lst (ca_1 (ce_neg ce_i) ca_0) (by exact (by decide : 1 ≤ 100000))) (retl_t hp1 hq)) fun hp1 =>
        cr_set (ce_call h_signed (hr.mono (by decide)) rfl (ca_1 (ce_add (ce_shl (ce_v 3 (pv 3) rfl) (ce_v 0 (pv 0) rfl) (cshl 66 (by omega) (by omega) (by omega))) (ce_v 1 (pv 1) rfl)) (ca_1 (ce_mul ce_i (ce_v 0 (pv 0) rfl) (wide_mul (a := 9) (b := 9) (by decide) (by omega) (by decide) (by decide) (by decide))) ca_0)) (v_signed (by omega)) (by decide)) (fun _ h => ps_set (i := 5) sc_op_idiv.nd rfl (Or.inl rfl) h) <|
        cr_set (ce_call h_signed (hr.mono (by decide)) rfl (ca_1 (ce_v 2 (pv 2) rfl) (ca_1 (ce_v 0 (pv 0) rfl) ca_0)) (v_signed (by omega)) (by decide)) (fun _ h => ps_set (i := 6) sc_op_idiv.nd rfl (Or.inl rfl) h) <|
        cr_set (ce_call h_cut_quotient (hr.mono (by decide)) rfl (ca_1 (ce_v 5 (pv 5) rfl) (ca_1 (ce_v 6 (pv 6) rfl) ca_0)) (v_cut_quotient ⟨signed_ne (of_decide_eq_false hp1) (by omega) (by omega), signed_small (by omega) (by omega)⟩) (by decide)) (fun _ h => ps_set (i := 7) sc_op_idiv.nd rfl (Or.inl rfl) h) <|
        cr_if (ct_not (ct_val (ce_call h_fits_signed (hr.mono (by decide)) rfl (ca_1 (ce_v 7 (pv 7) rfl) (ca_1 (ce_v 0 (pv 0) rfl) ca_0)) (v_fits_signed (by omega)) (by decide)))) (fun hp2 =>
          cr_retL (cl_lst (ca_1 (ce_neg ce_i) ca_0) (by exact (by decide : 1 ≤ 100000))) (retl_t hp2 (retl_f hp1 hq))) fun hp2 =>
        cr_set (ce_sub (ce_v 5 (pv 5) rfl) (ce_mul (ce_v 7 (pv 7) rfl) (ce_v 6 (pv 6) rfl) (wide_mul (a := 66) (b := 66) (fits_small hp2 (by omega)) (signed_small (by omega) (by omega)) (by decide) (by decide) (by decide)))) (fun _ h => ps_set (i := 8) sc_op_idiv.nd rfl (Or.inl rfl) h) <|
        cr_retL (cl_call h_answer (hr.mono (by decide)) rfl (ca_1 (ce_and (ce_v 7 (pv 7) rfl) (ce_call h_greatest (hr.mono (by decide)) rfl (ca_1 (ce_v 0 (pv 0) rfl) ca_0) (v_greatest (by omega)) (by decide))) (ca_1 (ce_and (ce_v 8 (pv 8) rfl) (ce_call h_greatest (hr.mono (by decide)) rfl (ca_1 (ce_v 0 (pv 0) rfl) ca_0) (v_greatest (by omega)) (by decide))) (ca_1 (ce_v 4 (pv 4) rfl) ca_0))) v_answer (by decide)) (retl_f hp2 (retl_f hp1 hq)))

theorem has_op_idiv {f : Addr} {fd : FuncData} (F : FnP K "op_idiv" s_op_idiv f fd) (g : mg "op_idiv" = some (.ref f)) (h_greatest : Has P w K mg base "greatest" 1 sp_greatest) (h_signed : Has P w K mg base "signed" 2 sp_signed) (h_fits_signed : Has P w K mg base "fits_signed" 1 sp_fits_signed) (h_answer : Has P w K mg base "answer" 1 sp_answer) (h_cut_quotient : Has P w K mg base "cut_quotient" 1 sp_cut_quotient) : Has P w K mg base "op_idiv" 3 sp_op_idiv :=
  ⟨f, fd, _, ok_op_idiv F h_greatest h_signed h_fits_signed h_answer h_cut_quotient, g, F.kp, FunD.bindsN F fun _ _ _ _ _ _ us hl => match us, hl with | [_, _, _, _, _], _ => rfl⟩

theorem ok_run_product {f : Addr} {fd : FuncData} (F : FnP K "run_product" s_run_product f fd) (h_op_mul : Has P w K mg base "op_mul" 3 sp_op_mul) (h_op_imul : Has P w K mg base "op_imul" 3 sp_op_imul) (h_op_div : Has P w K mg base "op_div" 2 sp_op_div) (h_op_idiv : Has P w K mg base "op_idiv" 3 sp_op_idiv) (t_PRODUCT_STEPS : Tab mg K "PRODUCT_STEPS" [(22, "op_mul"), (23, "op_imul"), (24, "op_div"), (25, "op_idiv")]) : FnOk P w K mg base CX0 4 f fd ["op", "width", "a", "b", "c", "flags"] sp_run_product := by
  refine FunD.ok F sc_run_product (fun vs H Q E h => ?_) (fun cdv A outer s H vs Q E hr h => ?_)
  · obtain ⟨_, _, _, _, _, _, rfl, _⟩ := h
    rfl
  · obtain ⟨op, width, a, b, c, flags, rfl, pre, hq⟩ := h
    have hop : op = 22 ∨ op = 23 ∨ op = 24 ∨ op = 25 := by omega
    refine cr_fin ?_
    rcases hop with rfl | rfl | rfl | rfl
    · exact cr_step (n := 6) (i := 22) (y := "op_mul") t_PRODUCT_STEPS (by decide) h_op_mul (hr.mono (by decide)) (v_op_mul pre.2) (pv 6) (ce_v 0 (pv 0) rfl) (fun _ => rfl) (fun _ h => ps_set (i := 6) sc_run_product.nd rfl (Or.inl rfl) h) (fun _ => (ca_1 (ce_v 1 (pv 1) rfl) (ca_1 (ce_v 2 (pv 2) rfl) (ca_1 (ce_v 3 (pv 3) rfl) (ca_1 (ce_v 4 (pv 4) rfl) (ca_1 (ce_v 5 (pv 5) rfl) ca_0)))))) hq
    · exact cr_step (n := 6) (i := 23) (y := "op_imul") t_PRODUCT_STEPS (by decide) h_op_imul (hr.mono (by decide)) (v_op_imul pre.2) (pv 6) (ce_v 0 (pv 0) rfl) (fun _ => rfl) (fun _ h => ps_set (i := 6) sc_run_product.nd rfl (Or.inl rfl) h) (fun _ => (ca_1 (ce_v 1 (pv 1) rfl) (ca_1 (ce_v 2 (pv 2) rfl) (ca_1 (ce_v 3 (pv 3) rfl) (ca_1 (ce_v 4 (pv 4) rfl) (ca_1 (ce_v 5 (pv 5) rfl) ca_0)))))) hq
    · exact cr_step (n := 6) (i := 24) (y := "op_div") t_PRODUCT_STEPS (by decide) h_op_div (hr.mono (by decide)) (v_op_div pre.2) (pv 6) (ce_v 0 (pv 0) rfl) (fun _ => rfl) (fun _ h => ps_set (i := 6) sc_run_product.nd rfl (Or.inl rfl) h) (fun _ => (ca_1 (ce_v 1 (pv 1) rfl) (ca_1 (ce_v 2 (pv 2) rfl) (ca_1 (ce_v 3 (pv 3) rfl) (ca_1 (ce_v 4 (pv 4) rfl) (ca_1 (ce_v 5 (pv 5) rfl) ca_0)))))) hq
    · exact cr_step (n := 6) (i := 25) (y := "op_idiv") t_PRODUCT_STEPS (by decide) h_op_idiv (hr.mono (by decide)) (v_op_idiv pre.2) (pv 6) (ce_v 0 (pv 0) rfl) (fun _ => rfl) (fun _ h => ps_set (i := 6) sc_run_product.nd rfl (Or.inl rfl) h) (fun _ => (ca_1 (ce_v 1 (pv 1) rfl) (ca_1 (ce_v 2 (pv 2) rfl) (ca_1 (ce_v 3 (pv 3) rfl) (ca_1 (ce_v 4 (pv 4) rfl) (ca_1 (ce_v 5 (pv 5) rfl) ca_0)))))) hq

theorem has_run_product {f : Addr} {fd : FuncData} (F : FnP K "run_product" s_run_product f fd) (g : mg "run_product" = some (.ref f)) (h_op_mul : Has P w K mg base "op_mul" 3 sp_op_mul) (h_op_imul : Has P w K mg base "op_imul" 3 sp_op_imul) (h_op_div : Has P w K mg base "op_div" 2 sp_op_div) (h_op_idiv : Has P w K mg base "op_idiv" 3 sp_op_idiv) (t_PRODUCT_STEPS : Tab mg K "PRODUCT_STEPS" [(22, "op_mul"), (23, "op_imul"), (24, "op_div"), (25, "op_idiv")]) : Has P w K mg base "run_product" 4 sp_run_product :=
  ⟨f, fd, _, ok_run_product F h_op_mul h_op_imul h_op_div h_op_idiv t_PRODUCT_STEPS, g, F.kp, FunD.bindsN F fun _ _ _ _ _ _ us hl => match us, hl with | [_, _, _, _, _, _], _ => rfl⟩

theorem ok_turned_left {f : Addr} {fd : FuncData} (F : FnP K "turned_left" s_turned_left f fd) (h_greatest : Has P w K mg base "greatest" 1 sp_greatest) : FnOk P w K mg base CX0 2 f fd ["number", "size", "n"] sp_turned_left := by
  refine FunD.ok F sc_turned_left (fun vs H Q E h => ?_) (fun cdv A outer s H vs Q E hr h => ?_)
  · obtain ⟨_, _, _, rfl, _⟩ := h
    rfl
  · obtain ⟨number, size, n, rfl, pre, hq⟩ := h
    exact cr_fin (
        cr_set (ce_mod (ce_v 2 (pv 2) rfl) (ce_v 1 (pv 1) rfl) (by omega)) (fun _ h => ps_set (i := 3) sc_turned_left.nd rfl (Or.inl rfl) h) <|
        cr_ret (ce_and (ce_or (ce_shl (ce_v 0 (pv 0) rfl) (ce_v 3 (pv 3) rfl) (cshl 66 (by omega) (emod_nn (by omega)) (emod_le (by omega) (by omega)))) (ce_shr (ce_v 0 (pv 0) rfl) (ce_sub (ce_v 1 (pv 1) rfl) (ce_v 3 (pv 3) rfl)) (emod_sub (by omega)))) (ce_call h_greatest (hr.mono (by decide)) rfl (ca_1 (ce_v 1 (pv 1) rfl) ca_0) (v_greatest (by omega)) (by decide))) hq)

theorem has_turned_left {f : Addr} {fd : FuncData} (F : FnP K "turned_left" s_turned_left f fd) (g : mg "turned_left" = some (.ref f)) (h_greatest : Has P w K mg base "greatest" 1 sp_greatest) : Has P w K mg base "turned_left" 2 sp_turned_left :=
  ⟨f, fd, _, ok_turned_left F h_greatest, g, F.kp, FunD.bindsN F fun _ _ _ _ _ _ us hl => match us, hl with | [_, _, _], _ => rfl⟩

theorem ok_turned_right {f : Addr} {fd : FuncData} (F : FnP K "turned_right" s_turned_right f fd) (h_turned_left : Has P w K mg base "turned_left" 2 sp_turned_left) : FnOk P w K mg base CX0 3 f fd ["number", "size", "n"] sp_turned_right := by
  refine FunD.ok F sc_turned_right (fun vs H Q E h => ?_) (fun cdv A outer s H vs Q E hr h => ?_)
  · obtain ⟨_, _, _, rfl, _⟩ := h
    rfl
  · obtain ⟨number, size, n, rfl, pre, hq⟩ := h
    exact cr_fin (
        cr_ret (ce_call h_turned_left (hr.mono (by decide)) rfl (ca_1 (ce_v 0 (pv 0) rfl) (ca_1 (ce_v 1 (pv 1) rfl) (ca_1 (ce_sub (ce_v 1 (pv 1) rfl) (ce_mod (ce_v 2 (pv 2) rfl) (ce_v 1 (pv 1) rfl) (by omega))) ca_0))) (v_turned_left (by omega)) (by decide)) hq)

theorem has_turned_right {f : Addr} {fd : FuncData} (F : FnP K "turned_right" s_turned_right f fd) (g : mg "turned_right" = some (.ref f)) (h_turned_left : Has P w K mg base "turned_left" 2 sp_turned_left) : Has P w K mg base "turned_right" 3 sp_turned_right :=
  ⟨f, fd, _, ok_turned_right F h_turned_left, g, F.kp, FunD.bindsN F fun _ _ _ _ _ _ us hl => match us, hl with | [_, _, _], _ => rfl⟩

theorem ok_is_top_not_carry {f : Addr} {fd : FuncData} (F : FnP K "is_top_not_carry" s_is_top_not_carry f fd) (h_bit : Has P w K mg base "bit" 1 sp_bit) (h_carry_of : Has P w K mg base "carry_of" 1 sp_carry_of) : FnOk P w K mg base CX0 2 f fd ["width", "number", "flags"] sp_is_top_not_carry := by
  refine FunD.ok F sc_is_top_not_carry (fun vs H Q E h => ?_) (fun cdv A outer s H vs Q E hr h => ?_)
  · obtain ⟨_, _, _, rfl, _⟩ := h
    rfl
  · obtain ⟨width, number, flags, rfl, pre, hq⟩ := h
    exact cr_fin (
        cr_ret (ce_cmp op_ne (ce_call h_bit (hr.mono (by decide)) rfl (ca_1 (ce_v 1 (pv 1) rfl) (ca_1 (ce_sub (ce_v 0 (pv 0) rfl) ce_i) ca_0)) (v_bit (by omega)) (by decide)) (ce_call h_carry_of (hr.mono (by decide)) rfl (ca_1 (ce_v 2 (pv 2) rfl) ca_0) v_carry_of (by decide)) rv_ine (nomark _)) hq)

theorem has_is_top_not_carry {f : Addr} {fd : FuncData} (F : FnP K "is_top_not_carry" s_is_top_not_carry f fd) (g : mg "is_top_not_carry" = some (.ref f)) (h_bit : Has P w K mg base "bit" 1 sp_bit) (h_carry_of : Has P w K mg base "carry_of" 1 sp_carry_of) : Has P w K mg base "is_top_not_carry" 2 sp_is_top_not_carry :=
  ⟨f, fd, _, ok_is_top_not_carry F h_bit h_carry_of, g, F.kp, FunD.bindsN F fun _ _ _ _ _ _ us hl => match us, hl with | [_, _, _], _ => rfl⟩

theorem ok_op_shl {f : Addr} {fd : FuncData} (F : FnP K "op_shl" s_op_shl f fd) (h_greatest : Has P w K mg base "greatest" 1 sp_greatest) (h_bit : Has P w K mg base "bit" 1 sp_bit) (h_put : Has P w K mg base "put" 1 sp_put) (h_show : Has P w K mg base "show" 3 sp_show) (h_answer : Has P w K mg base "answer" 1 sp_answer) (h_is_top_not_carry : Has P w K mg base "is_top_not_carry" 2 sp_is_top_not_carry) (c_CARRY : Cst mg "CARRY" 1) (c_OVERFLOW : Cst mg "OVERFLOW" 2048) : FnOk P w K mg base CX0 4 f fd ["width", "a", "b", "n", "flags"] sp_op_shl := by
  refine FunD.ok F sc_op_shl (fun vs H Q E h => ?_) (fun cdv A outer s H vs Q E hr h => ?_)
  · obtain ⟨_, _, _, _, _, rfl, _⟩ := h
    rfl
  · obtain ⟨width, a, b, n, flags, rfl, pre, hq⟩ := h
    exact cr_fin (
        cr_set (ce_and (ce_shl (ce_v 1 (pv 1) rfl) (ce_v 3 (pv 3) rfl) (cshl 66 (by omega) (by omega) (by omega))) (ce_call h_greatest (hr.mono (by decide)) rfl (ca_1 (ce_v 0 (pv 0) rfl) ca_0) (v_greatest (by omega)) (by decide))) (fun _ h => ps_set (i := 5) sc_op_shl.nd rfl (Or.inl rfl) h) <|
        cr_set (ce_call h_show (hr.mono (by decide)) rfl (ca_1 (ce_v 4 (pv 4) rfl) (ca_1 (ce_v 5 (pv 5) rfl) (ca_1 (ce_v 0 (pv 0) rfl) ca_0))) (v_show (by omega)) (by decide)) (fun _ h => ps_set (i := 6) sc_op_shl.nd rfl (Or.inl rfl) h) <|
        cr_ifset (ct_cmp op_lt (ce_v 3 (pv 3) rfl) (ce_v 0 (pv 0) rfl) rv_I0 (nomark _)) (fun hp => (ce_call h_put (hr.mono (by decide)) rfl (ca_1 (ce_v 6 (pv 6) rfl) (ca_1 (ce_g c_CARRY rfl (by decide)) (ca_1 (ce_cmp op_eq (ce_call h_bit (hr.mono (by decide)) rfl (ca_1 (ce_v 1 (pv 1) rfl) (ca_1 (ce_sub (ce_v 0 (pv 0) rfl) (ce_v 3 (pv 3) rfl)) ca_0)) (v_bit (by have := of_decide_eq_true hp; omega)) (by decide)) ce_i rv_ieq (nomark _)) ca_0))) v_put (by decide))) rfl (fun _ h => ps_set (i := 6) sc_op_shl.nd rfl (Or.inl rfl) h) <|
        cr_ifset (ct_cmp op_eq (ce_v 3 (pv 3) rfl) ce_i rv_ieq (nomark _)) (fun hp => (ce_call h_put (hr.mono (by decide)) rfl (ca_1 (ce_v 6 (pv 6) rfl) (ca_1 (ce_g c_OVERFLOW rfl (by decide)) (ca_1 (ce_call h_is_top_not_carry (hr.mono (by decide)) rfl (ca_1 (ce_v 0 (pv 0) rfl) (ca_1 (ce_v 5 (pv 5) rfl) (ca_1 (ce_v 6 (pv 6) rfl) ca_0))) (v_is_top_not_carry (by omega)) (by decide)) ca_0))) v_put (by decide))) rfl (fun _ h => ps_set (i := 6) sc_op_shl.nd rfl (Or.inl rfl) h) <|
        cr_retL (cl_call h_answer (hr.mono (by decide)) rfl (ca_1 (ce_v 5 (pv 5) rfl) (ca_1 ce_i (ca_1 (ce_v 6 (pv 6) rfl) ca_0))) v_answer (by decide)) hq)

theorem has_op_shl {f : Addr} {fd : FuncData} (F : FnP K "op_shl" s_op_shl f fd) (g : mg "op_shl" = some (.ref f)) (h_greatest : Has P w K mg base "greatest" 1 sp_greatest) (h_bit : Has P w K mg base "bit" 1 sp_bit) (h_put : Has P w K mg base "put" 1 sp_put) (h_show : Has P w K mg base "show" 3 sp_show) (h_answer : Has P w K mg base "answer" 1 sp_answer) (h_is_top_not_carry : Has P w K mg base "is_top_not_carry" 2 sp_is_top_not_carry) (c_CARRY : Cst mg "CARRY" 1) (c_OVERFLOW : Cst mg "OVERFLOW" 2048) : Has P w K mg base "op_shl" 4 sp_op_shl :=
  ⟨f, fd, _, ok_op_shl F h_greatest h_bit h_put h_show h_answer h_is_top_not_carry c_CARRY c_OVERFLOW, g, F.kp, FunD.bindsN F fun _ _ _ _ _ _ us hl => match us, hl with | [_, _, _, _, _], _ => rfl⟩

theorem ok_op_shr {f : Addr} {fd : FuncData} (F : FnP K "op_shr" s_op_shr f fd) (h_bit : Has P w K mg base "bit" 1 sp_bit) (h_put : Has P w K mg base "put" 1 sp_put) (h_show : Has P w K mg base "show" 3 sp_show) (h_answer : Has P w K mg base "answer" 1 sp_answer) (c_CARRY : Cst mg "CARRY" 1) (c_OVERFLOW : Cst mg "OVERFLOW" 2048) : FnOk P w K mg base CX0 4 f fd ["width", "a", "b", "n", "flags"] sp_op_shr := by
  refine FunD.ok F sc_op_shr (fun vs H Q E h => ?_) (fun cdv A outer s H vs Q E hr h => ?_)
  · obtain ⟨_, _, _, _, _, rfl, _⟩ := h
    rfl
  · obtain ⟨width, a, b, n, flags, rfl, pre, hq⟩ := h
    exact cr_fin (
        cr_set (ce_shr (ce_v 1 (pv 1) rfl) (ce_v 3 (pv 3) rfl) (by omega)) (fun _ h => ps_set (i := 5) sc_op_shr.nd rfl (Or.inl rfl) h) <|
        cr_set (ce_call h_show (hr.mono (by decide)) rfl (ca_1 (ce_v 4 (pv 4) rfl) (ca_1 (ce_v 5 (pv 5) rfl) (ca_1 (ce_v 0 (pv 0) rfl) ca_0))) (v_show (by omega)) (by decide)) (fun _ h => ps_set (i := 6) sc_op_shr.nd rfl (Or.inl rfl) h) <|
        cr_ifset (ct_cmp op_lt (ce_v 3 (pv 3) rfl) (ce_v 0 (pv 0) rfl) rv_I0 (nomark _)) (fun hp => (ce_call h_put (hr.mono (by decide)) rfl (ca_1 (ce_v 6 (pv 6) rfl) (ca_1 (ce_g c_CARRY rfl (by decide)) (ca_1 (ce_cmp op_eq (ce_call h_bit (hr.mono (by decide)) rfl (ca_1 (ce_v 1 (pv 1) rfl) (ca_1 (ce_sub (ce_v 3 (pv 3) rfl) ce_i) ca_0)) (v_bit (by omega)) (by decide)) ce_i rv_ieq (nomark _)) ca_0))) v_put (by decide))) rfl (fun _ h => ps_set (i := 6) sc_op_shr.nd rfl (Or.inl rfl) h) <|
        cr_ifset (ct_cmp op_eq (ce_v 3 (pv 3) rfl) ce_i rv_ieq (nomark _)) (fun hp => (ce_call h_put (hr.mono (by decide)) rfl (ca_1 (ce_v 6 (pv 6) rfl) (ca_1 (ce_g c_OVERFLOW rfl (by decide)) (ca_1 (ce_cmp op_eq (ce_call h_bit (hr.mono (by decide)) rfl (ca_1 (ce_v 1 (pv 1) rfl) (ca_1 (ce_sub (ce_v 0 (pv 0) rfl) ce_i) ca_0)) (v_bit (by omega)) (by decide)) ce_i rv_ieq (nomark _)) ca_0))) v_put (by decide))) rfl (fun _ h => ps_set (i := 6) sc_op_shr.nd rfl (Or.inl rfl) h) <|
        cr_retL (cl_call h_answer (hr.mono (by decide)) rfl (ca_1 (ce_v 5 (pv 5) rfl) (ca_1 ce_i (ca_1 (ce_v 6 (pv 6) rfl) ca_0))) v_answer (by decide)) hq)

theorem has_op_shr {f : Addr} {fd : FuncData} (F : FnP K "op_shr" s_op_shr f fd) (g : mg "op_shr" = some (.ref f)) (h_bit : Has P w K mg base "bit" 1 sp_bit) (h_put : Has P w K mg base "put" 1 sp_put) (h_show : Has P w K mg base "show" 3 sp_show) (h_answer : Has P w K mg base "answer" 1 sp_answer) (c_CARRY : Cst mg "CARRY" 1) (c_OVERFLOW : Cst mg "OVERFLOW" 2048) : Has P w K mg base "op_shr" 4 sp_op_shr :=
  ⟨f, fd, _, ok_op_shr F h_bit h_put h_show h_answer c_CARRY c_OVERFLOW, g, F.kp, FunD.bindsN F fun _ _ _ _ _ _ us hl => match us, hl with | [_, _, _, _, _], _ => rfl⟩

theorem ok_op_sar {f : Addr} {fd : FuncData} (F : FnP K "op_sar" s_op_sar f fd) (h_greatest : Has P w K mg base "greatest" 1 sp_greatest) (h_bit : Has P w K mg base "bit" 1 sp_bit) (h_signed : Has P w K mg base "signed" 2 sp_signed) (h_put : Has P w K mg base "put" 1 sp_put) (h_show : Has P w K mg base "show" 3 sp_show) (h_answer : Has P w K mg base "answer" 1 sp_answer) (c_CARRY : Cst mg "CARRY" 1) (c_OVERFLOW : Cst mg "OVERFLOW" 2048) : FnOk P w K mg base CX0 4 f fd ["width", "a", "b", "n", "flags"] sp_op_sar := by
  refine FunD.ok F sc_op_sar (fun vs H Q E h => ?_) (fun cdv A outer s H vs Q E hr h => ?_)
  · obtain ⟨_, _, _, _, _, rfl, _⟩ := h
    rfl
  · obtain ⟨width, a, b, n, flags, rfl, pre, hq⟩ := h
    exact cr_fin (
        cr_set (ce_call h_signed (hr.mono (by decide)) rfl (ca_1 (ce_v 1 (pv 1) rfl) (ca_1 (ce_v 0 (pv 0) rfl) ca_0)) (v_signed (by omega)) (by decide)) (fun _ h => ps_set (i := 5) sc_op_sar.nd rfl (Or.inl rfl) h) <|
        cr_set (ce_and (ce_shr (ce_v 5 (pv 5) rfl) (ce_v 3 (pv 3) rfl) (by omega)) (ce_call h_greatest (hr.mono (by decide)) rfl (ca_1 (ce_v 0 (pv 0) rfl) ca_0) (v_greatest (by omega)) (by decide))) (fun _ h => ps_set (i := 6) sc_op_sar.nd rfl (Or.inl rfl) h) <|
        cr_set (ce_call h_show (hr.mono (by decide)) rfl (ca_1 (ce_v 4 (pv 4) rfl) (ca_1 (ce_v 6 (pv 6) rfl) (ca_1 (ce_v 0 (pv 0) rfl) ca_0))) (v_show (by omega)) (by decide)) (fun _ h => ps_set (i := 7) sc_op_sar.nd rfl (Or.inl rfl) h) <|
        cr_set (ce_call h_put (hr.mono (by decide)) rfl (ca_1 (ce_v 7 (pv 7) rfl) (ca_1 (ce_g c_CARRY rfl (by decide)) (ca_1 (ce_cmp op_eq (ce_call h_bit (hr.mono (by decide)) rfl (ca_1 (ce_v 5 (pv 5) rfl) (ca_1 (ce_sub (ce_v 3 (pv 3) rfl) ce_i) ca_0)) (v_bit (by omega)) (by decide)) ce_i rv_ieq (nomark _)) ca_0))) v_put (by decide)) (fun _ h => ps_set (i := 7) sc_op_sar.nd rfl (Or.inl rfl) h) <|
        cr_ifset (ct_cmp op_eq (ce_v 3 (pv 3) rfl) ce_i rv_ieq (nomark _)) (fun hp => (ce_call h_put (hr.mono (by decide)) rfl (ca_1 (ce_v 7 (pv 7) rfl) (ca_1 (ce_g c_OVERFLOW rfl (by decide)) (ca_1 ce_b ca_0))) v_put (by decide))) rfl (fun _ h => ps_set (i := 7) sc_op_sar.nd rfl (Or.inl rfl) h) <|
        cr_retL (cl_call h_answer (hr.mono (by decide)) rfl (ca_1 (ce_v 6 (pv 6) rfl) (ca_1 ce_i (ca_1 (ce_v 7 (pv 7) rfl) ca_0))) v_answer (by decide)) hq)

theorem has_op_sar {f : Addr} {fd : FuncData} (F : FnP K "op_sar" s_op_sar f fd) (g : mg "op_sar" = some (.ref f)) (h_greatest : Has P w K mg base "greatest" 1 sp_greatest) (h_bit : Has P w K mg base "bit" 1 sp_bit) (h_signed : Has P w K mg base "signed" 2 sp_signed) (h_put : Has P w K mg base "put" 1 sp_put) (h_show : Has P w K mg base "show" 3 sp_show) (h_answer : Has P w K mg base "answer" 1 sp_answer) (c_CARRY : Cst mg "CARRY" 1) (c_OVERFLOW : Cst mg "OVERFLOW" 2048) : Has P w K mg base "op_sar" 4 sp_op_sar :=
  ⟨f, fd, _, ok_op_sar F h_greatest h_bit h_signed h_put h_show h_answer c_CARRY c_OVERFLOW, g, F.kp, FunD.bindsN F fun _ _ _ _ _ _ us hl => match us, hl with | [_, _, _, _, _], _ => rfl⟩

theorem ok_op_rol {f : Addr} {fd : FuncData} (F : FnP K "op_rol" s_op_rol f fd) (h_bit : Has P w K mg base "bit" 1 sp_bit) (h_put : Has P w K mg base "put" 1 sp_put) (h_answer : Has P w K mg base "answer" 1 sp_answer) (h_turned_left : Has P w K mg base "turned_left" 2 sp_turned_left) (h_is_top_not_carry : Has P w K mg base "is_top_not_carry" 2 sp_is_top_not_carry) (c_CARRY : Cst mg "CARRY" 1) (c_OVERFLOW : Cst mg "OVERFLOW" 2048) : FnOk P w K mg base CX0 3 f fd ["width", "a", "b", "n", "flags"] sp_op_rol := by
  refine FunD.ok F sc_op_rol (fun vs H Q E h => ?_) (fun cdv A outer s H vs Q E hr h => ?_)
  · obtain ⟨_, _, _, _, _, rfl, _⟩ := h
    rfl
  · obtain ⟨width, a, b, n, flags, rfl, pre, hq⟩ := h
    exact cr_fin (
        cr_set (ce_call h_turned_left (hr.mono (by decide)) rfl (ca_1 (ce_v 1 (pv 1) rfl) (ca_1 (ce_v 0 (pv 0) rfl) (ca_1 (ce_v 3 (pv 3) rfl) ca_0))) (v_turned_left (by omega)) (by decide)) (fun _ h => ps_set (i := 5) sc_op_rol.nd rfl (Or.inl rfl) h) <|
        cr_set (ce_call h_put (hr.mono (by decide)) rfl (ca_1 (ce_v 4 (pv 4) rfl) (ca_1 (ce_g c_CARRY rfl (by decide)) (ca_1 (ce_cmp op_eq (ce_call h_bit (hr.mono (by decide)) rfl (ca_1 (ce_v 5 (pv 5) rfl) (ca_1 ce_i ca_0)) (v_bit (by omega)) (by decide)) ce_i rv_ieq (nomark _)) ca_0))) v_put (by decide)) (fun _ h => ps_set (i := 6) sc_op_rol.nd rfl (Or.inl rfl) h) <|
        cr_ifset (ct_cmp op_eq (ce_v 3 (pv 3) rfl) ce_i rv_ieq (nomark _)) (fun hp => (ce_call h_put (hr.mono (by decide)) rfl (ca_1 (ce_v 6 (pv 6) rfl) (ca_1 (ce_g c_OVERFLOW rfl (by decide)) (ca_1 (ce_call h_is_top_not_carry (hr.mono (by decide)) rfl (ca_1 (ce_v 0 (pv 0) rfl) (ca_1 (ce_v 5 (pv 5) rfl) (ca_1 (ce_v 6 (pv 6) rfl) ca_0))) (v_is_top_not_carry (by omega)) (by decide)) ca_0))) v_put (by decide))) rfl (fun _ h => ps_set (i := 6) sc_op_rol.nd rfl (Or.inl rfl) h) <|
        cr_retL (cl_call h_answer (hr.mono (by decide)) rfl (ca_1 (ce_v 5 (pv 5) rfl) (ca_1 ce_i (ca_1 (ce_v 6 (pv 6) rfl) ca_0))) v_answer (by decide)) hq)

theorem has_op_rol {f : Addr} {fd : FuncData} (F : FnP K "op_rol" s_op_rol f fd) (g : mg "op_rol" = some (.ref f)) (h_bit : Has P w K mg base "bit" 1 sp_bit) (h_put : Has P w K mg base "put" 1 sp_put) (h_answer : Has P w K mg base "answer" 1 sp_answer) (h_turned_left : Has P w K mg base "turned_left" 2 sp_turned_left) (h_is_top_not_carry : Has P w K mg base "is_top_not_carry" 2 sp_is_top_not_carry) (c_CARRY : Cst mg "CARRY" 1) (c_OVERFLOW : Cst mg "OVERFLOW" 2048) : Has P w K mg base "op_rol" 3 sp_op_rol :=
  ⟨f, fd, _, ok_op_rol F h_bit h_put h_answer h_turned_left h_is_top_not_carry c_CARRY c_OVERFLOW, g, F.kp, FunD.bindsN F fun _ _ _ _ _ _ us hl => match us, hl with | [_, _, _, _, _], _ => rfl⟩

theorem ok_op_ror {f : Addr} {fd : FuncData} (F : FnP K "op_ror" s_op_ror f fd) (h_bit : Has P w K mg base "bit" 1 sp_bit) (h_put : Has P w K mg base "put" 1 sp_put) (h_answer : Has P w K mg base "answer" 1 sp_answer) (h_turned_right : Has P w K mg base "turned_right" 3 sp_turned_right) (c_CARRY : Cst mg "CARRY" 1) (c_OVERFLOW : Cst mg "OVERFLOW" 2048) : FnOk P w K mg base CX0 4 f fd ["width", "a", "b", "n", "flags"] sp_op_ror := by
  refine FunD.ok F sc_op_ror (fun vs H Q E h => ?_) (fun cdv A outer s H vs Q E hr h => ?_)
  · obtain ⟨_, _, _, _, _, rfl, _⟩ := h
    rfl
  · obtain ⟨width, a, b, n, flags, rfl, pre, hq⟩ := h
    exact cr_fin (
        cr_set (ce_call h_turned_right (hr.mono (by decide)) rfl (ca_1 (ce_v 1 (pv 1) rfl) (ca_1 (ce_v 0 (pv 0) rfl) (ca_1 (ce_v 3 (pv 3) rfl) ca_0))) (v_turned_right (by omega)) (by decide)) (fun _ h => ps_set (i := 5) sc_op_ror.nd rfl (Or.inl rfl) h) <|
        cr_set (ce_call h_put (hr.mono (by decide)) rfl (ca_1 (ce_v 4 (pv 4) rfl) (ca_1 (ce_g c_CARRY rfl (by decide)) (ca_1 (ce_cmp op_eq (ce_call h_bit (hr.mono (by decide)) rfl (ca_1 (ce_v 5 (pv 5) rfl) (ca_1 (ce_sub (ce_v 0 (pv 0) rfl) ce_i) ca_0)) (v_bit (by omega)) (by decide)) ce_i rv_ieq (nomark _)) ca_0))) v_put (by decide)) (fun _ h => ps_set (i := 6) sc_op_ror.nd rfl (Or.inl rfl) h) <|
        cr_ifset (ct_cmp op_eq (ce_v 3 (pv 3) rfl) ce_i rv_ieq (nomark _)) (fun hp => (ce_call h_put (hr.mono (by decide)) rfl (ca_1 (ce_v 6 (pv 6) rfl) (ca_1 (ce_g c_OVERFLOW rfl (by decide)) (ca_1 (ce_cmp op_ne (ce_call h_bit (hr.mono (by decide)) rfl (ca_1 (ce_v 5 (pv 5) rfl) (ca_1 (ce_sub (ce_v 0 (pv 0) rfl) ce_i) ca_0)) (v_bit (by omega)) (by decide)) (ce_call h_bit (hr.mono (by decide)) rfl (ca_1 (ce_v 5 (pv 5) rfl) (ca_1 (ce_sub (ce_v 0 (pv 0) rfl) ce_i) ca_0)) (v_bit (by omega)) (by decide)) rv_ine (nomark _)) ca_0))) v_put (by decide))) rfl (fun _ h => ps_set (i := 6) sc_op_ror.nd rfl (Or.inl rfl) h) <|
        cr_retL (cl_call h_answer (hr.mono (by decide)) rfl (ca_1 (ce_v 5 (pv 5) rfl) (ca_1 ce_i (ca_1 (ce_v 6 (pv 6) rfl) ca_0))) v_answer (by decide)) hq)

theorem has_op_ror {f : Addr} {fd : FuncData} (F : FnP K "op_ror" s_op_ror f fd) (g : mg "op_ror" = some (.ref f)) (h_bit : Has P w K mg base "bit" 1 sp_bit) (h_put : Has P w K mg base "put" 1 sp_put) (h_answer : Has P w K mg base "answer" 1 sp_answer) (h_turned_right : Has P w K mg base "turned_right" 3 sp_turned_right) (c_CARRY : Cst mg "CARRY" 1) (c_OVERFLOW : Cst mg "OVERFLOW" 2048) : Has P w K mg base "op_ror" 4 sp_op_ror :=
  ⟨f, fd, _, ok_op_ror F h_bit h_put h_answer h_turned_right c_CARRY c_OVERFLOW, g, F.kp, FunD.bindsN F fun _ _ _ _ _ _ us hl => match us, hl with | [_, _, _, _, _], _ => rfl⟩

theorem ok_with_carry_above {f : Addr} {fd : FuncData} (F : FnP K "with_carry_above" s_with_carry_above f fd) (h_carry_of : Has P w K mg base "carry_of" 1 sp_carry_of) : FnOk P w K mg base CX0 2 f fd ["width", "a", "flags"] sp_with_carry_above := by
  refine FunD.ok F sc_with_carry_above (fun vs H Q E h => ?_) (fun cdv A outer s H vs Q E hr h => ?_)
  · obtain ⟨_, _, _, rfl, _⟩ := h
    rfl
  · obtain ⟨width, a, flags, rfl, pre, hq⟩ := h
    exact cr_fin (
        cr_ret (ce_add (ce_shl (ce_call h_carry_of (hr.mono (by decide)) rfl (ca_1 (ce_v 2 (pv 2) rfl) ca_0) v_carry_of (by decide)) (ce_v 0 (pv 0) rfl) (cshl 66 (carry_small) (by omega) (by omega))) (ce_v 1 (pv 1) rfl)) hq)

theorem has_with_carry_above {f : Addr} {fd : FuncData} (F : FnP K "with_carry_above" s_with_carry_above f fd) (g : mg "with_carry_above" = some (.ref f)) (h_carry_of : Has P w K mg base "carry_of" 1 sp_carry_of) : Has P w K mg base "with_carry_above" 2 sp_with_carry_above :=
  ⟨f, fd, _, ok_with_carry_above F h_carry_of, g, F.kp, FunD.bindsN F fun _ _ _ _ _ _ us hl => match us, hl with | [_, _, _], _ => rfl⟩

theorem ok_op_rcl {f : Addr} {fd : FuncData} (F : FnP K "op_rcl" s_op_rcl f fd) (h_greatest : Has P w K mg base "greatest" 1 sp_greatest) (h_bit : Has P w K mg base "bit" 1 sp_bit) (h_put : Has P w K mg base "put" 1 sp_put) (h_answer : Has P w K mg base "answer" 1 sp_answer) (h_turned_left : Has P w K mg base "turned_left" 2 sp_turned_left) (h_is_top_not_carry : Has P w K mg base "is_top_not_carry" 2 sp_is_top_not_carry) (h_with_carry_above : Has P w K mg base "with_carry_above" 2 sp_with_carry_above) (c_CARRY : Cst mg "CARRY" 1) (c_OVERFLOW : Cst mg "OVERFLOW" 2048) : FnOk P w K mg base CX0 3 f fd ["width", "a", "b", "n", "flags"] sp_op_rcl := by
  refine FunD.ok F sc_op_rcl (fun vs H Q E h => ?_) (fun cdv A outer s H vs Q E hr h => ?_)
  · obtain ⟨_, _, _, _, _, rfl, _⟩ := h
    rfl
  · obtain ⟨width, a, b, n, flags, rfl, pre, hq⟩ := h
    exact cr_fin (
        cr_set (ce_call h_turned_left (hr.mono (by decide)) rfl (ca_1 (ce_call h_with_carry_above (hr.mono (by decide)) rfl (ca_1 (ce_v 0 (pv 0) rfl) (ca_1 (ce_v 1 (pv 1) rfl) (ca_1 (ce_v 4 (pv 4) rfl) ca_0))) (v_with_carry_above (by omega)) (by decide)) (ca_1 (ce_add (ce_v 0 (pv 0) rfl) ce_i) (ca_1 (ce_v 3 (pv 3) rfl) ca_0))) (v_turned_left ⟨by omega, above_small (by omega) (by omega) (by omega)⟩) (by decide)) (fun _ h => ps_set (i := 5) sc_op_rcl.nd rfl (Or.inl rfl) h) <|
        cr_set (ce_and (ce_v 5 (pv 5) rfl) (ce_call h_greatest (hr.mono (by decide)) rfl (ca_1 (ce_v 0 (pv 0) rfl) ca_0) (v_greatest (by omega)) (by decide))) (fun _ h => ps_set (i := 6) sc_op_rcl.nd rfl (Or.inl rfl) h) <|
        cr_set (ce_call h_put (hr.mono (by decide)) rfl (ca_1 (ce_v 4 (pv 4) rfl) (ca_1 (ce_g c_CARRY rfl (by decide)) (ca_1 (ce_cmp op_eq (ce_call h_bit (hr.mono (by decide)) rfl (ca_1 (ce_v 5 (pv 5) rfl) (ca_1 (ce_v 0 (pv 0) rfl) ca_0)) (v_bit (by omega)) (by decide)) ce_i rv_ieq (nomark _)) ca_0))) v_put (by decide)) (fun _ h => ps_set (i := 7) sc_op_rcl.nd rfl (Or.inl rfl) h) <|
        cr_ifset (ct_cmp op_eq (ce_v 3 (pv 3) rfl) ce_i rv_ieq (nomark _)) (fun hp => (ce_call h_put (hr.mono (by decide)) rfl (ca_1 (ce_v 7 (pv 7) rfl) (ca_1 (ce_g c_OVERFLOW rfl (by decide)) (ca_1 (ce_call h_is_top_not_carry (hr.mono (by decide)) rfl (ca_1 (ce_v 0 (pv 0) rfl) (ca_1 (ce_v 6 (pv 6) rfl) (ca_1 (ce_v 7 (pv 7) rfl) ca_0))) (v_is_top_not_carry (by omega)) (by decide)) ca_0))) v_put (by decide))) rfl (fun _ h => ps_set (i := 7) sc_op_rcl.nd rfl (Or.inl rfl) h) <|
        cr_retL (cl_call h_answer (hr.mono (by decide)) rfl (ca_1 (ce_v 6 (pv 6) rfl) (ca_1 ce_i (ca_1 (ce_v 7 (pv 7) rfl) ca_0))) v_answer (by decide)) hq)

theorem has_op_rcl {f : Addr} {fd : FuncData} (F : FnP K "op_rcl" s_op_rcl f fd) (g : mg "op_rcl" = some (.ref f)) (h_greatest : Has P w K mg base "greatest" 1 sp_greatest) (h_bit : Has P w K mg base "bit" 1 sp_bit) (h_put : Has P w K mg base "put" 1 sp_put) (h_answer : Has P w K mg base "answer" 1 sp_answer) (h_turned_left : Has P w K mg base "turned_left" 2 sp_turned_left) (h_is_top_not_carry : Has P w K mg base "is_top_not_carry" 2 sp_is_top_not_carry) (h_with_carry_above : Has P w K mg base "with_carry_above" 2 sp_with_carry_above) (c_CARRY : Cst mg "CARRY" 1) (c_OVERFLOW : Cst mg "OVERFLOW" 2048) : Has P w K mg base "op_rcl" 3 sp_op_rcl :=
  ⟨f, fd, _, ok_op_rcl F h_greatest h_bit h_put h_answer h_turned_left h_is_top_not_carry h_with_carry_above c_CARRY c_OVERFLOW, g, F.kp, FunD.bindsN F fun _ _ _ _ _ _ us hl => match us, hl with | [_, _, _, _, _], _ => rfl⟩

theorem ok_op_rcr {f : Addr} {fd : FuncData} (F : FnP K "op_rcr" s_op_rcr f fd) (h_greatest : Has P w K mg base "greatest" 1 sp_greatest) (h_bit : Has P w K mg base "bit" 1 sp_bit) (h_put : Has P w K mg base "put" 1 sp_put) (h_answer : Has P w K mg base "answer" 1 sp_answer) (h_turned_right : Has P w K mg base "turned_right" 3 sp_turned_right) (h_is_top_not_carry : Has P w K mg base "is_top_not_carry" 2 sp_is_top_not_carry) (h_with_carry_above : Has P w K mg base "with_carry_above" 2 sp_with_carry_above) (c_CARRY : Cst mg "CARRY" 1) (c_OVERFLOW : Cst mg "OVERFLOW" 2048) : FnOk P w K mg base CX0 4 f fd ["width", "a", "b", "n", "flags"] sp_op_rcr := by
  refine FunD.ok F sc_op_rcr (fun vs H Q E h => ?_) (fun cdv A outer s H vs Q E hr h => ?_)
  · obtain ⟨_, _, _, _, _, rfl, _⟩ := h
    rfl
  · obtain ⟨width, a, b, n, flags, rfl, pre, hq⟩ := h
    exact cr_fin (
        cr_set (ce_call h_turned_right (hr.mono (by decide)) rfl (ca_1 (ce_call h_with_carry_above (hr.mono (by decide)) rfl (ca_1 (ce_v 0 (pv 0) rfl) (ca_1 (ce_v 1 (pv 1) rfl) (ca_1 (ce_v 4 (pv 4) rfl) ca_0))) (v_with_carry_above (by omega)) (by decide)) (ca_1 (ce_add (ce_v 0 (pv 0) rfl) ce_i) (ca_1 (ce_v 3 (pv 3) rfl) ca_0))) (v_turned_right ⟨by omega, above_small (by omega) (by omega) (by omega)⟩) (by decide)) (fun _ h => ps_set (i := 5) sc_op_rcr.nd rfl (Or.inl rfl) h) <|
        cr_set (ce_and (ce_v 5 (pv 5) rfl) (ce_call h_greatest (hr.mono (by decide)) rfl (ca_1 (ce_v 0 (pv 0) rfl) ca_0) (v_greatest (by omega)) (by decide))) (fun _ h => ps_set (i := 6) sc_op_rcr.nd rfl (Or.inl rfl) h) <|
        cr_set (ce_call h_put (hr.mono (by decide)) rfl (ca_1 (ce_v 4 (pv 4) rfl) (ca_1 (ce_g c_CARRY rfl (by decide)) (ca_1 (ce_cmp op_eq (ce_call h_bit (hr.mono (by decide)) rfl (ca_1 (ce_v 5 (pv 5) rfl) (ca_1 (ce_v 0 (pv 0) rfl) ca_0)) (v_bit (by omega)) (by decide)) ce_i rv_ieq (nomark _)) ca_0))) v_put (by decide)) (fun _ h => ps_set (i := 7) sc_op_rcr.nd rfl (Or.inl rfl) h) <|
        cr_ifset (ct_cmp op_eq (ce_v 3 (pv 3) rfl) ce_i rv_ieq (nomark _)) (fun hp => (ce_call h_put (hr.mono (by decide)) rfl (ca_1 (ce_v 7 (pv 7) rfl) (ca_1 (ce_g c_OVERFLOW rfl (by decide)) (ca_1 (ce_call h_is_top_not_carry (hr.mono (by decide)) rfl (ca_1 (ce_v 0 (pv 0) rfl) (ca_1 (ce_v 1 (pv 1) rfl) (ca_1 (ce_v 4 (pv 4) rfl) ca_0))) (v_is_top_not_carry (by omega)) (by decide)) ca_0))) v_put (by decide))) rfl (fun _ h => ps_set (i := 7) sc_op_rcr.nd rfl (Or.inl rfl) h) <|
        cr_retL (cl_call h_answer (hr.mono (by decide)) rfl (ca_1 (ce_v 6 (pv 6) rfl) (ca_1 ce_i (ca_1 (ce_v 7 (pv 7) rfl) ca_0))) v_answer (by decide)) hq)

theorem has_op_rcr {f : Addr} {fd : FuncData} (F : FnP K "op_rcr" s_op_rcr f fd) (g : mg "op_rcr" = some (.ref f)) (h_greatest : Has P w K mg base "greatest" 1 sp_greatest) (h_bit : Has P w K mg base "bit" 1 sp_bit) (h_put : Has P w K mg base "put" 1 sp_put) (h_answer : Has P w K mg base "answer" 1 sp_answer) (h_turned_right : Has P w K mg base "turned_right" 3 sp_turned_right) (h_is_top_not_carry : Has P w K mg base "is_top_not_carry" 2 sp_is_top_not_carry) (h_with_carry_above : Has P w K mg base "with_carry_above" 2 sp_with_carry_above) (c_CARRY : Cst mg "CARRY" 1) (c_OVERFLOW : Cst mg "OVERFLOW" 2048) : Has P w K mg base "op_rcr" 4 sp_op_rcr :=
  ⟨f, fd, _, ok_op_rcr F h_greatest h_bit h_put h_answer h_turned_right h_is_top_not_carry h_with_carry_above c_CARRY c_OVERFLOW, g, F.kp, FunD.bindsN F fun _ _ _ _ _ _ us hl => match us, hl with | [_, _, _, _, _], _ => rfl⟩

theorem ok_double_answer {f : Addr} {fd : FuncData} (F : FnP K "double_answer" s_double_answer f fd) (h_bit : Has P w K mg base "bit" 1 sp_bit) (h_put : Has P w K mg base "put" 1 sp_put) (h_show : Has P w K mg base "show" 3 sp_show) (h_answer : Has P w K mg base "answer" 1 sp_answer) (c_CARRY : Cst mg "CARRY" 1) (c_OVERFLOW : Cst mg "OVERFLOW" 2048) : FnOk P w K mg base CX0 4 f fd ["width", "a", "lo", "carry", "n", "flags"] sp_double_answer := by
  refine FunD.ok F sc_double_answer (fun vs H Q E h => ?_) (fun cdv A outer s H vs Q E hr h => ?_)
  · obtain ⟨_, _, _, _, _, _, rfl, _⟩ := h
    rfl
  · obtain ⟨width, a, lo, carry, n, flags, rfl, pre, hq⟩ := h
    exact cr_fin (
        cr_set (ce_call h_show (hr.mono (by decide)) rfl (ca_1 (ce_v 5 (pv 5) rfl) (ca_1 (ce_v 2 (pv 2) rfl) (ca_1 (ce_v 0 (pv 0) rfl) ca_0))) (v_show (by omega)) (by decide)) (fun _ h => ps_set (i := 6) sc_double_answer.nd rfl (Or.inl rfl) h) <|
        cr_set (ce_call h_put (hr.mono (by decide)) rfl (ca_1 (ce_v 6 (pv 6) rfl) (ca_1 (ce_g c_CARRY rfl (by decide)) (ca_1 (ce_cmp op_eq (ce_v 3 (pv 3) rfl) ce_i rv_ieq (nomark _)) ca_0))) v_put (by decide)) (fun _ h => ps_set (i := 6) sc_double_answer.nd rfl (Or.inl rfl) h) <|
        cr_ifset (ct_cmp op_eq (ce_v 4 (pv 4) rfl) ce_i rv_ieq (nomark _)) (fun hp => (ce_call h_put (hr.mono (by decide)) rfl (ca_1 (ce_v 6 (pv 6) rfl) (ca_1 (ce_g c_OVERFLOW rfl (by decide)) (ca_1 (ce_cmp op_ne (ce_call h_bit (hr.mono (by decide)) rfl (ca_1 (ce_v 2 (pv 2) rfl) (ca_1 (ce_sub (ce_v 0 (pv 0) rfl) ce_i) ca_0)) (v_bit (by omega)) (by decide)) (ce_call h_bit (hr.mono (by decide)) rfl (ca_1 (ce_v 1 (pv 1) rfl) (ca_1 (ce_sub (ce_v 0 (pv 0) rfl) ce_i) ca_0)) (v_bit (by omega)) (by decide)) rv_ine (nomark _)) ca_0))) v_put (by decide))) rfl (fun _ h => ps_set (i := 6) sc_double_answer.nd rfl (Or.inl rfl) h) <|
        cr_retL (cl_call h_answer (hr.mono (by decide)) rfl (ca_1 (ce_v 2 (pv 2) rfl) (ca_1 ce_i (ca_1 (ce_v 6 (pv 6) rfl) ca_0))) v_answer (by decide)) hq)

theorem has_double_answer {f : Addr} {fd : FuncData} (F : FnP K "double_answer" s_double_answer f fd) (g : mg "double_answer" = some (.ref f)) (h_bit : Has P w K mg base "bit" 1 sp_bit) (h_put : Has P w K mg base "put" 1 sp_put) (h_show : Has P w K mg base "show" 3 sp_show) (h_answer : Has P w K mg base "answer" 1 sp_answer) (c_CARRY : Cst mg "CARRY" 1) (c_OVERFLOW : Cst mg "OVERFLOW" 2048) : Has P w K mg base "double_answer" 4 sp_double_answer :=
  ⟨f, fd, _, ok_double_answer F h_bit h_put h_show h_answer c_CARRY c_OVERFLOW, g, F.kp, FunD.bindsN F fun _ _ _ _ _ _ us hl => match us, hl with | [_, _, _, _, _, _], _ => rfl⟩

theorem ok_op_shld {f : Addr} {fd : FuncData} (F : FnP K "op_shld" s_op_shld f fd) (h_greatest : Has P w K mg base "greatest" 1 sp_greatest) (h_bit : Has P w K mg base "bit" 1 sp_bit) (h_double_answer : Has P w K mg base "double_answer" 4 sp_double_answer) : FnOk P w K mg base CX0 5 f fd ["width", "a", "b", "n", "flags"] sp_op_shld := by
  refine FunD.ok F sc_op_shld (fun vs H Q E h => ?_) (fun cdv A outer s H vs Q E hr h => ?_)
  · obtain ⟨_, _, _, _, _, rfl, _⟩ := h
    rfl
  · obtain ⟨width, a, b, n, flags, rfl, pre, hq⟩ := h
    exact cr_fin (
        cr_if (ct_cmp op_gt (ce_v 3 (pv 3) rfl) (ce_v 0 (pv 0) rfl) rv_I0 (nomark _)) (fun hp1 =>
          cr_retL (cl_lst (ca_1 (ce_neg ce_i) ca_0) (by exact (by decide : 1 ≤ 100000))) (retl_t hp1 hq)) fun hp1 =>
        cr_set (ce_and (ce_add (ce_shl (ce_v 1 (pv 1) rfl) (ce_v 3 (pv 3) rfl) (cshl 66 (by omega) (by omega) (by omega))) (ce_shr (ce_v 2 (pv 2) rfl) (ce_sub (ce_v 0 (pv 0) rfl) (ce_v 3 (pv 3) rfl)) (by have := of_decide_eq_false hp1; omega))) (ce_call h_greatest (hr.mono (by decide)) rfl (ca_1 (ce_v 0 (pv 0) rfl) ca_0) (v_greatest (by omega)) (by decide))) (fun _ h => ps_set (i := 5) sc_op_shld.nd rfl (Or.inl rfl) h) <|
        cr_retL (cl_call h_double_answer (hr.mono (by decide)) rfl (ca_1 (ce_v 0 (pv 0) rfl) (ca_1 (ce_v 1 (pv 1) rfl) (ca_1 (ce_v 5 (pv 5) rfl) (ca_1 (ce_call h_bit (hr.mono (by decide)) rfl (ca_1 (ce_v 1 (pv 1) rfl) (ca_1 (ce_sub (ce_v 0 (pv 0) rfl) (ce_v 3 (pv 3) rfl)) ca_0)) (v_bit (by have := of_decide_eq_false hp1; omega)) (by decide)) (ca_1 (ce_v 3 (pv 3) rfl) (ca_1 (ce_v 4 (pv 4) rfl) ca_0)))))) (v_double_answer (by omega)) (by decide)) (retl_f hp1 hq))

theorem has_op_shld {f : Addr} {fd : FuncData} (F : FnP K "op_shld" s_op_shld f fd) (g : mg "op_shld" = some (.ref f)) (h_greatest : Has P w K mg base "greatest" 1 sp_greatest) (h_bit : Has P w K mg base "bit" 1 sp_bit) (h_double_answer : Has P w K mg base "double_answer" 4 sp_double_answer) : Has P w K mg base "op_shld" 5 sp_op_shld :=
  ⟨f, fd, _, ok_op_shld F h_greatest h_bit h_double_answer, g, F.kp, FunD.bindsN F fun _ _ _ _ _ _ us hl => match us, hl with | [_, _, _, _, _], _ => rfl⟩

theorem ok_op_shrd {f : Addr} {fd : FuncData} (F : FnP K "op_shrd" s_op_shrd f fd) (h_greatest : Has P w K mg base "greatest" 1 sp_greatest) (h_bit : Has P w K mg base "bit" 1 sp_bit) (h_double_answer : Has P w K mg base "double_answer" 4 sp_double_answer) : FnOk P w K mg base CX0 5 f fd ["width", "a", "b", "n", "flags"] sp_op_shrd := by
  refine FunD.ok F sc_op_shrd (fun vs H Q E h => ?_) (fun cdv A outer s H vs Q E hr h => ?_)
  · obtain ⟨_, _, _, _, _, rfl, _⟩ := h
    rfl
  · obtain ⟨width, a, b, n, flags, rfl, pre, hq⟩ := h
    exact cr_fin (
        cr_if (ct_cmp op_gt (ce_v 3 (pv 3) rfl) (ce_v 0 (pv 0) rfl) rv_I0 (nomark _)) (fun hp1 =>
          cr_retL (cl_lst (ca_1 (ce_neg ce_i) ca_0) (by exact (by decide : 1 ≤ 100000))) (retl_t hp1 hq)) fun hp1 =>
        cr_set (ce_and (ce_shr (ce_add (ce_shl (ce_v 2 (pv 2) rfl) (ce_v 0 (pv 0) rfl) (cshl 66 (by omega) (by omega) (by omega))) (ce_v 1 (pv 1) rfl)) (ce_v 3 (pv 3) rfl) (by omega)) (ce_call h_greatest (hr.mono (by decide)) rfl (ca_1 (ce_v 0 (pv 0) rfl) ca_0) (v_greatest (by omega)) (by decide))) (fun _ h => ps_set (i := 5) sc_op_shrd.nd rfl (Or.inl rfl) h) <|
        cr_retL (cl_call h_double_answer (hr.mono (by decide)) rfl (ca_1 (ce_v 0 (pv 0) rfl) (ca_1 (ce_v 1 (pv 1) rfl) (ca_1 (ce_v 5 (pv 5) rfl) (ca_1 (ce_call h_bit (hr.mono (by decide)) rfl (ca_1 (ce_v 1 (pv 1) rfl) (ca_1 (ce_sub (ce_v 3 (pv 3) rfl) ce_i) ca_0)) (v_bit (by omega)) (by decide)) (ca_1 (ce_v 3 (pv 3) rfl) (ca_1 (ce_v 4 (pv 4) rfl) ca_0)))))) (v_double_answer (by omega)) (by decide)) (retl_f hp1 hq))

theorem has_op_shrd {f : Addr} {fd : FuncData} (F : FnP K "op_shrd" s_op_shrd f fd) (g : mg "op_shrd" = some (.ref f)) (h_greatest : Has P w K mg base "greatest" 1 sp_greatest) (h_bit : Has P w K mg base "bit" 1 sp_bit) (h_double_answer : Has P w K mg base "double_answer" 4 sp_double_answer) : Has P w K mg base "op_shrd" 5 sp_op_shrd :=
  ⟨f, fd, _, ok_op_shrd F h_greatest h_bit h_double_answer, g, F.kp, FunD.bindsN F fun _ _ _ _ _ _ us hl => match us, hl with | [_, _, _, _, _], _ => rfl⟩

theorem ok_places_to_go {f : Addr} {fd : FuncData} (F : FnP K "places_to_go" s_places_to_go f fd)  : FnOk P w K mg base CX0 1 f fd ["op", "width", "b", "c"] sp_places_to_go := by
  refine FunD.ok F sc_places_to_go (fun vs H Q E h => ?_) (fun cdv A outer s H vs Q E hr h => ?_)
  · obtain ⟨_, _, _, _, rfl, _⟩ := h
    rfl
  · obtain ⟨op, width, b, c, rfl, hq⟩ := h
    exact cr_fin (
        cr_set (ce_if (ct_cmp op_ge (ce_v 0 (pv 0) rfl) ce_i rv_I0 (nomark _)) (ce_v 3 (pv 3) rfl) (ce_v 2 (pv 2) rfl)) (fun _ h => ps_set (i := 4) sc_places_to_go.nd rfl (Or.inl rfl) h) <|
        cr_if (ct_cmp op_eq (ce_v 1 (pv 1) rfl) ce_i rv_ieq (nomark _)) (fun hp1 =>
          cr_ret (ce_mod (ce_v 4 (pv 4) rfl) ce_i (by omega)) (retv_t hp1 hq)) fun hp1 =>
        cr_ret (ce_mod (ce_v 4 (pv 4) rfl) ce_i (by omega)) (retv_f hp1 hq))

theorem has_places_to_go {f : Addr} {fd : FuncData} (F : FnP K "places_to_go" s_places_to_go f fd) (g : mg "places_to_go" = some (.ref f))  : Has P w K mg base "places_to_go" 1 sp_places_to_go :=
  ⟨f, fd, _, ok_places_to_go F , g, F.kp, FunD.bindsN F fun _ _ _ _ _ _ us hl => match us, hl with | [_, _, _, _], _ => rfl⟩

theorem ok_run_shift {f : Addr} {fd : FuncData} (F : FnP K "run_shift" s_run_shift f fd) (h_answer : Has P w K mg base "answer" 1 sp_answer) (h_places_to_go : Has P w K mg base "places_to_go" 1 sp_places_to_go) (h_op_shl : Has P w K mg base "op_shl" 4 sp_op_shl) (h_op_shr : Has P w K mg base "op_shr" 4 sp_op_shr) (h_op_sar : Has P w K mg base "op_sar" 4 sp_op_sar) (h_op_rol : Has P w K mg base "op_rol" 3 sp_op_rol) (h_op_ror : Has P w K mg base "op_ror" 4 sp_op_ror) (h_op_rcl : Has P w K mg base "op_rcl" 3 sp_op_rcl) (h_op_rcr : Has P w K mg base "op_rcr" 4 sp_op_rcr) (h_op_shld : Has P w K mg base "op_shld" 5 sp_op_shld) (h_op_shrd : Has P w K mg base "op_shrd" 5 sp_op_shrd) (t_SHIFT_STEPS : Tab mg K "SHIFT_STEPS" [(13, "op_shl"), (14, "op_shr"), (15, "op_sar"), (16, "op_rol"), (17, "op_ror"), (18, "op_rcl"), (19, "op_rcr"), (20, "op_shld"), (21, "op_shrd")]) : FnOk P w K mg base CX0 6 f fd ["op", "width", "a", "b", "c", "flags"] sp_run_shift := by
  refine FunD.ok F sc_run_shift (fun vs H Q E h => ?_) (fun cdv A outer s H vs Q E hr h => ?_)
  · obtain ⟨_, _, _, _, _, _, rfl, _⟩ := h
    rfl
  · obtain ⟨op, width, a, b, c, flags, rfl, pre, hq⟩ := h
    refine cr_fin (cr_set (ce_call h_places_to_go (hr.mono (by decide)) rfl (ca_1 (ce_v 0 (pv 0) rfl) (ca_1 (ce_v 1 (pv 1) rfl) (ca_1 (ce_v 3 (pv 3) rfl) (ca_1 (ce_v 4 (pv 4) rfl) ca_0)))) v_places_to_go (by decide)) (fun _ h => ps_set (i := 6) sc_run_shift.nd rfl (Or.inl rfl) h) <| cr_if (ct_cmp op_eq (ce_v 6 (pv 6) rfl) ce_i rv_ieq (nomark _)) (fun hp => cr_retL (cl_call h_answer (hr.mono (by decide)) rfl (ca_1 (ce_v 2 (pv 2) rfl) (ca_1 ce_i (ca_1 (ce_v 5 (pv 5) rfl) ca_0))) v_answer (by decide)) (retl_t hp hq)) fun hp => ?_)
    have hn : m_places_to_go op width b c ≠ 0 := of_decide_eq_false hp
    have hn2 : 1 ≤ m_places_to_go op width b c ∧ m_places_to_go op width b c ≤ 63 := places_range hn
    replace hq := retl_f hp hq
    have pre2 : (8 ≤ width ∧ width ≤ 64) ∧ (0 ≤ a ∧ a < 18446744073709551616) ∧ (0 ≤ b ∧ b < 18446744073709551616) ∧ (1 ≤ m_places_to_go op width b c ∧ m_places_to_go op width b c ≤ 63) := ⟨pre.2.1, pre.2.2.1, pre.2.2.2.1, hn2⟩
    have hop : op = 13 ∨ op = 14 ∨ op = 15 ∨ op = 16 ∨ op = 17 ∨ op = 18 ∨ op = 19 ∨ op = 20 ∨ op = 21 := by omega
    rcases hop with rfl | rfl | rfl | rfl | rfl | rfl | rfl | rfl | rfl
    · exact cr_step (n := 7) (i := 13) (y := "op_shl") t_SHIFT_STEPS (by decide) h_op_shl (hr.mono (by decide)) (v_op_shl pre2) (pv 7) (ce_v 0 (pv 0) rfl) (fun _ => rfl) (fun _ h => ps_set (i := 7) sc_run_shift.nd rfl (Or.inl rfl) h) (fun _ => (ca_1 (ce_v 1 (pv 1) rfl) (ca_1 (ce_v 2 (pv 2) rfl) (ca_1 (ce_v 3 (pv 3) rfl) (ca_1 (ce_v 6 (pv 6) rfl) (ca_1 (ce_v 5 (pv 5) rfl) ca_0)))))) hq
    · exact cr_step (n := 7) (i := 14) (y := "op_shr") t_SHIFT_STEPS (by decide) h_op_shr (hr.mono (by decide)) (v_op_shr pre2) (pv 7) (ce_v 0 (pv 0) rfl) (fun _ => rfl) (fun _ h => ps_set (i := 7) sc_run_shift.nd rfl (Or.inl rfl) h) (fun _ => (ca_1 (ce_v 1 (pv 1) rfl) (ca_1 (ce_v 2 (pv 2) rfl) (ca_1 (ce_v 3 (pv 3) rfl) (ca_1 (ce_v 6 (pv 6) rfl) (ca_1 (ce_v 5 (pv 5) rfl) ca_0)))))) hq
    · exact cr_step (n := 7) (i := 15) (y := "op_sar") t_SHIFT_STEPS (by decide) h_op_sar (hr.mono (by decide)) (v_op_sar pre2) (pv 7) (ce_v 0 (pv 0) rfl) (fun _ => rfl) (fun _ h => ps_set (i := 7) sc_run_shift.nd rfl (Or.inl rfl) h) (fun _ => (ca_1 (ce_v 1 (pv 1) rfl) (ca_1 (ce_v 2 (pv 2) rfl) (ca_1 (ce_v 3 (pv 3) rfl) (ca_1 (ce_v 6 (pv 6) rfl) (ca_1 (ce_v 5 (pv 5) rfl) ca_0)))))) hq
    · exact cr_step (n := 7) (i := 16) (y := "op_rol") t_SHIFT_STEPS (by decide) h_op_rol (hr.mono (by decide)) (v_op_rol pre2) (pv 7) (ce_v 0 (pv 0) rfl) (fun _ => rfl) (fun _ h => ps_set (i := 7) sc_run_shift.nd rfl (Or.inl rfl) h) (fun _ => (ca_1 (ce_v 1 (pv 1) rfl) (ca_1 (ce_v 2 (pv 2) rfl) (ca_1 (ce_v 3 (pv 3) rfl) (ca_1 (ce_v 6 (pv 6) rfl) (ca_1 (ce_v 5 (pv 5) rfl) ca_0)))))) hq
    · exact cr_step (n := 7) (i := 17) (y := "op_ror") t_SHIFT_STEPS (by decide) h_op_ror (hr.mono (by decide)) (v_op_ror pre2) (pv 7) (ce_v 0 (pv 0) rfl) (fun _ => rfl) (fun _ h => ps_set (i := 7) sc_run_shift.nd rfl (Or.inl rfl) h) (fun _ => (ca_1 (ce_v 1 (pv 1) rfl) (ca_1 (ce_v 2 (pv 2) rfl) (ca_1 (ce_v 3 (pv 3) rfl) (ca_1 (ce_v 6 (pv 6) rfl) (ca_1 (ce_v 5 (pv 5) rfl) ca_0)))))) hq
    · exact cr_step (n := 7) (i := 18) (y := "op_rcl") t_SHIFT_STEPS (by decide) h_op_rcl (hr.mono (by decide)) (v_op_rcl pre2) (pv 7) (ce_v 0 (pv 0) rfl) (fun _ => rfl) (fun _ h => ps_set (i := 7) sc_run_shift.nd rfl (Or.inl rfl) h) (fun _ => (ca_1 (ce_v 1 (pv 1) rfl) (ca_1 (ce_v 2 (pv 2) rfl) (ca_1 (ce_v 3 (pv 3) rfl) (ca_1 (ce_v 6 (pv 6) rfl) (ca_1 (ce_v 5 (pv 5) rfl) ca_0)))))) hq
    · exact cr_step (n := 7) (i := 19) (y := "op_rcr") t_SHIFT_STEPS (by decide) h_op_rcr (hr.mono (by decide)) (v_op_rcr pre2) (pv 7) (ce_v 0 (pv 0) rfl) (fun _ => rfl) (fun _ h => ps_set (i := 7) sc_run_shift.nd rfl (Or.inl rfl) h) (fun _ => (ca_1 (ce_v 1 (pv 1) rfl) (ca_1 (ce_v 2 (pv 2) rfl) (ca_1 (ce_v 3 (pv 3) rfl) (ca_1 (ce_v 6 (pv 6) rfl) (ca_1 (ce_v 5 (pv 5) rfl) ca_0)))))) hq
    · exact cr_step (n := 7) (i := 20) (y := "op_shld") t_SHIFT_STEPS (by decide) h_op_shld (hr.mono (by decide)) (v_op_shld pre2) (pv 7) (ce_v 0 (pv 0) rfl) (fun _ => rfl) (fun _ h => ps_set (i := 7) sc_run_shift.nd rfl (Or.inl rfl) h) (fun _ => (ca_1 (ce_v 1 (pv 1) rfl) (ca_1 (ce_v 2 (pv 2) rfl) (ca_1 (ce_v 3 (pv 3) rfl) (ca_1 (ce_v 6 (pv 6) rfl) (ca_1 (ce_v 5 (pv 5) rfl) ca_0)))))) hq
    · exact cr_step (n := 7) (i := 21) (y := "op_shrd") t_SHIFT_STEPS (by decide) h_op_shrd (hr.mono (by decide)) (v_op_shrd pre2) (pv 7) (ce_v 0 (pv 0) rfl) (fun _ => rfl) (fun _ h => ps_set (i := 7) sc_run_shift.nd rfl (Or.inl rfl) h) (fun _ => (ca_1 (ce_v 1 (pv 1) rfl) (ca_1 (ce_v 2 (pv 2) rfl) (ca_1 (ce_v 3 (pv 3) rfl) (ca_1 (ce_v 6 (pv 6) rfl) (ca_1 (ce_v 5 (pv 5) rfl) ca_0)))))) hq

theorem has_run_shift {f : Addr} {fd : FuncData} (F : FnP K "run_shift" s_run_shift f fd) (g : mg "run_shift" = some (.ref f)) (h_answer : Has P w K mg base "answer" 1 sp_answer) (h_places_to_go : Has P w K mg base "places_to_go" 1 sp_places_to_go) (h_op_shl : Has P w K mg base "op_shl" 4 sp_op_shl) (h_op_shr : Has P w K mg base "op_shr" 4 sp_op_shr) (h_op_sar : Has P w K mg base "op_sar" 4 sp_op_sar) (h_op_rol : Has P w K mg base "op_rol" 3 sp_op_rol) (h_op_ror : Has P w K mg base "op_ror" 4 sp_op_ror) (h_op_rcl : Has P w K mg base "op_rcl" 3 sp_op_rcl) (h_op_rcr : Has P w K mg base "op_rcr" 4 sp_op_rcr) (h_op_shld : Has P w K mg base "op_shld" 5 sp_op_shld) (h_op_shrd : Has P w K mg base "op_shrd" 5 sp_op_shrd) (t_SHIFT_STEPS : Tab mg K "SHIFT_STEPS" [(13, "op_shl"), (14, "op_shr"), (15, "op_sar"), (16, "op_rol"), (17, "op_ror"), (18, "op_rcl"), (19, "op_rcr"), (20, "op_shld"), (21, "op_shrd")]) : Has P w K mg base "run_shift" 6 sp_run_shift :=
  ⟨f, fd, _, ok_run_shift F h_answer h_places_to_go h_op_shl h_op_shr h_op_sar h_op_rol h_op_ror h_op_rcl h_op_rcr h_op_shld h_op_shrd t_SHIFT_STEPS, g, F.kp, FunD.bindsN F fun _ _ _ _ _ _ us hl => match us, hl with | [_, _, _, _, _, _], _ => rfl⟩

theorem ok_total {f : Addr} {fd : FuncData} (F : FnP K "total" s_total f fd) (h_greatest : Has P w K mg base "greatest" 1 sp_greatest) : FnOk P w K mg base CX0 2 f fd ["width", "a", "b", "k"] sp_total := by
  refine FunD.ok F sc_total (fun vs H Q E h => ?_) (fun cdv A outer s H vs Q E hr h => ?_)
  · obtain ⟨_, _, _, _, rfl, _⟩ := h
    rfl
  · obtain ⟨width, a, b, k, rfl, pre, hq⟩ := h
    exact cr_fin (
        cr_ret (ce_and (ce_add (ce_add (ce_v 1 (pv 1) rfl) (ce_v 2 (pv 2) rfl)) (ce_v 3 (pv 3) rfl)) (ce_call h_greatest (hr.mono (by decide)) rfl (ca_1 (ce_v 0 (pv 0) rfl) ca_0) (v_greatest (by omega)) (by decide))) hq)

theorem has_total {f : Addr} {fd : FuncData} (F : FnP K "total" s_total f fd) (g : mg "total" = some (.ref f)) (h_greatest : Has P w K mg base "greatest" 1 sp_greatest) : Has P w K mg base "total" 2 sp_total :=
  ⟨f, fd, _, ok_total F h_greatest, g, F.kp, FunD.bindsN F fun _ _ _ _ _ _ us hl => match us, hl with | [_, _, _, _], _ => rfl⟩

theorem ok_difference {f : Addr} {fd : FuncData} (F : FnP K "difference" s_difference f fd) (h_greatest : Has P w K mg base "greatest" 1 sp_greatest) : FnOk P w K mg base CX0 2 f fd ["width", "a", "b", "k"] sp_difference := by
  refine FunD.ok F sc_difference (fun vs H Q E h => ?_) (fun cdv A outer s H vs Q E hr h => ?_)
  · obtain ⟨_, _, _, _, rfl, _⟩ := h
    rfl
  · obtain ⟨width, a, b, k, rfl, pre, hq⟩ := h
    exact cr_fin (
        cr_ret (ce_and (ce_sub (ce_sub (ce_v 1 (pv 1) rfl) (ce_v 2 (pv 2) rfl)) (ce_v 3 (pv 3) rfl)) (ce_call h_greatest (hr.mono (by decide)) rfl (ca_1 (ce_v 0 (pv 0) rfl) ca_0) (v_greatest (by omega)) (by decide))) hq)

theorem has_difference {f : Addr} {fd : FuncData} (F : FnP K "difference" s_difference f fd) (g : mg "difference" = some (.ref f)) (h_greatest : Has P w K mg base "greatest" 1 sp_greatest) : Has P w K mg base "difference" 2 sp_difference :=
  ⟨f, fd, _, ok_difference F h_greatest, g, F.kp, FunD.bindsN F fun _ _ _ _ _ _ us hl => match us, hl with | [_, _, _, _], _ => rfl⟩

theorem ok_total_flags {f : Addr} {fd : FuncData} (F : FnP K "total_flags" s_total_flags f fd) (h_greatest : Has P w K mg base "greatest" 1 sp_greatest) (h_signed : Has P w K mg base "signed" 2 sp_signed) (h_put : Has P w K mg base "put" 1 sp_put) (h_show : Has P w K mg base "show" 3 sp_show) (h_total : Has P w K mg base "total" 2 sp_total) (c_CARRY : Cst mg "CARRY" 1) (c_HALF_CARRY : Cst mg "HALF_CARRY" 16) (c_OVERFLOW : Cst mg "OVERFLOW" 2048) : FnOk P w K mg base CX0 4 f fd ["width", "a", "b", "k", "flags"] sp_total_flags := by
  refine FunD.ok F sc_total_flags (fun vs H Q E h => ?_) (fun cdv A outer s H vs Q E hr h => ?_)
  · obtain ⟨_, _, _, _, _, rfl, _⟩ := h
    rfl
  · obtain ⟨width, a, b, k, flags, rfl, pre, hq⟩ := h
    exact cr_fin (
        cr_set (ce_call h_total (hr.mono (by decide)) rfl (ca_1 (ce_v 0 (pv 0) rfl) (ca_1 (ce_v 1 (pv 1) rfl) (ca_1 (ce_v 2 (pv 2) rfl) (ca_1 (ce_v 3 (pv 3) rfl) ca_0)))) (v_total (by omega)) (by decide)) (fun _ h => ps_set (i := 5) sc_total_flags.nd rfl (Or.inl rfl) h) <|
        cr_set (ce_add (ce_add (ce_call h_signed (hr.mono (by decide)) rfl (ca_1 (ce_v 1 (pv 1) rfl) (ca_1 (ce_v 0 (pv 0) rfl) ca_0)) (v_signed (by omega)) (by decide)) (ce_call h_signed (hr.mono (by decide)) rfl (ca_1 (ce_v 2 (pv 2) rfl) (ca_1 (ce_v 0 (pv 0) rfl) ca_0)) (v_signed (by omega)) (by decide))) (ce_v 3 (pv 3) rfl)) (fun _ h => ps_set (i := 6) sc_total_flags.nd rfl (Or.inl rfl) h) <|
        cr_set (ce_call h_show (hr.mono (by decide)) rfl (ca_1 (ce_v 4 (pv 4) rfl) (ca_1 (ce_v 5 (pv 5) rfl) (ca_1 (ce_v 0 (pv 0) rfl) ca_0))) (v_show (by omega)) (by decide)) (fun _ h => ps_set (i := 7) sc_total_flags.nd rfl (Or.inl rfl) h) <|
        cr_set (ce_call h_put (hr.mono (by decide)) rfl (ca_1 (ce_v 7 (pv 7) rfl) (ca_1 (ce_g c_CARRY rfl (by decide)) (ca_1 (ce_cmp op_gt (ce_add (ce_add (ce_v 1 (pv 1) rfl) (ce_v 2 (pv 2) rfl)) (ce_v 3 (pv 3) rfl)) (ce_call h_greatest (hr.mono (by decide)) rfl (ca_1 (ce_v 0 (pv 0) rfl) ca_0) (v_greatest (by omega)) (by decide)) rv_I0 (nomark _)) ca_0))) v_put (by decide)) (fun _ h => ps_set (i := 7) sc_total_flags.nd rfl (Or.inl rfl) h) <|
        cr_set (ce_call h_put (hr.mono (by decide)) rfl (ca_1 (ce_v 7 (pv 7) rfl) (ca_1 (ce_g c_HALF_CARRY rfl (by decide)) (ca_1 (ce_cmp op_ge (ce_add (ce_add (ce_mod (ce_v 1 (pv 1) rfl) ce_i (by omega)) (ce_mod (ce_v 2 (pv 2) rfl) ce_i (by omega))) (ce_v 3 (pv 3) rfl)) ce_i rv_I0 (nomark _)) ca_0))) v_put (by decide)) (fun _ h => ps_set (i := 7) sc_total_flags.nd rfl (Or.inl rfl) h) <|
        cr_ret (ce_call h_put (hr.mono (by decide)) rfl (ca_1 (ce_v 7 (pv 7) rfl) (ca_1 (ce_g c_OVERFLOW rfl (by decide)) (ca_1 (ce_cmp op_ne (ce_v 6 (pv 6) rfl) (ce_call h_signed (hr.mono (by decide)) rfl (ca_1 (ce_v 5 (pv 5) rfl) (ca_1 (ce_v 0 (pv 0) rfl) ca_0)) (v_signed (by omega)) (by decide)) rv_ine (nomark _)) ca_0))) v_put (by decide)) hq)

theorem has_total_flags {f : Addr} {fd : FuncData} (F : FnP K "total_flags" s_total_flags f fd) (g : mg "total_flags" = some (.ref f)) (h_greatest : Has P w K mg base "greatest" 1 sp_greatest) (h_signed : Has P w K mg base "signed" 2 sp_signed) (h_put : Has P w K mg base "put" 1 sp_put) (h_show : Has P w K mg base "show" 3 sp_show) (h_total : Has P w K mg base "total" 2 sp_total) (c_CARRY : Cst mg "CARRY" 1) (c_HALF_CARRY : Cst mg "HALF_CARRY" 16) (c_OVERFLOW : Cst mg "OVERFLOW" 2048) : Has P w K mg base "total_flags" 4 sp_total_flags :=
  ⟨f, fd, _, ok_total_flags F h_greatest h_signed h_put h_show h_total c_CARRY c_HALF_CARRY c_OVERFLOW, g, F.kp, FunD.bindsN F fun _ _ _ _ _ _ us hl => match us, hl with | [_, _, _, _, _], _ => rfl⟩

theorem ok_difference_flags {f : Addr} {fd : FuncData} (F : FnP K "difference_flags" s_difference_flags f fd) (h_signed : Has P w K mg base "signed" 2 sp_signed) (h_put : Has P w K mg base "put" 1 sp_put) (h_show : Has P w K mg base "show" 3 sp_show) (h_difference : Has P w K mg base "difference" 2 sp_difference) (c_CARRY : Cst mg "CARRY" 1) (c_HALF_CARRY : Cst mg "HALF_CARRY" 16) (c_OVERFLOW : Cst mg "OVERFLOW" 2048) : FnOk P w K mg base CX0 4 f fd ["width", "a", "b", "k", "flags"] sp_difference_flags := by
  refine FunD.ok F sc_difference_flags (fun vs H Q E h => ?_) (fun cdv A outer s H vs Q E hr h => ?_)
  · obtain ⟨_, _, _, _, _, rfl, _⟩ := h
    rfl
  · obtain ⟨width, a, b, k, flags, rfl, pre, hq⟩ := h
    exact cr_fin (
        cr_set (ce_call h_difference (hr.mono (by decide)) rfl (ca_1 (ce_v 0 (pv 0) rfl) (ca_1 (ce_v 1 (pv 1) rfl) (ca_1 (ce_v 2 (pv 2) rfl) (ca_1 (ce_v 3 (pv 3) rfl) ca_0)))) (v_difference (by omega)) (by decide)) (fun _ h => ps_set (i := 5) sc_difference_flags.nd rfl (Or.inl rfl) h) <|
        cr_set (ce_sub (ce_sub (ce_call h_signed (hr.mono (by decide)) rfl (ca_1 (ce_v 1 (pv 1) rfl) (ca_1 (ce_v 0 (pv 0) rfl) ca_0)) (v_signed (by omega)) (by decide)) (ce_call h_signed (hr.mono (by decide)) rfl (ca_1 (ce_v 2 (pv 2) rfl) (ca_1 (ce_v 0 (pv 0) rfl) ca_0)) (v_signed (by omega)) (by decide))) (ce_v 3 (pv 3) rfl)) (fun _ h => ps_set (i := 6) sc_difference_flags.nd rfl (Or.inl rfl) h) <|
        cr_set (ce_call h_show (hr.mono (by decide)) rfl (ca_1 (ce_v 4 (pv 4) rfl) (ca_1 (ce_v 5 (pv 5) rfl) (ca_1 (ce_v 0 (pv 0) rfl) ca_0))) (v_show (by omega)) (by decide)) (fun _ h => ps_set (i := 7) sc_difference_flags.nd rfl (Or.inl rfl) h) <|
        cr_set (ce_call h_put (hr.mono (by decide)) rfl (ca_1 (ce_v 7 (pv 7) rfl) (ca_1 (ce_g c_CARRY rfl (by decide)) (ca_1 (ce_cmp op_lt (ce_v 1 (pv 1) rfl) (ce_add (ce_v 2 (pv 2) rfl) (ce_v 3 (pv 3) rfl)) rv_I0 (nomark _)) ca_0))) v_put (by decide)) (fun _ h => ps_set (i := 7) sc_difference_flags.nd rfl (Or.inl rfl) h) <|
        cr_set (ce_call h_put (hr.mono (by decide)) rfl (ca_1 (ce_v 7 (pv 7) rfl) (ca_1 (ce_g c_HALF_CARRY rfl (by decide)) (ca_1 (ce_cmp op_lt (ce_mod (ce_v 1 (pv 1) rfl) ce_i (by omega)) (ce_add (ce_mod (ce_v 2 (pv 2) rfl) ce_i (by omega)) (ce_v 3 (pv 3) rfl)) rv_I0 (nomark _)) ca_0))) v_put (by decide)) (fun _ h => ps_set (i := 7) sc_difference_flags.nd rfl (Or.inl rfl) h) <|
        cr_ret (ce_call h_put (hr.mono (by decide)) rfl (ca_1 (ce_v 7 (pv 7) rfl) (ca_1 (ce_g c_OVERFLOW rfl (by decide)) (ca_1 (ce_cmp op_ne (ce_v 6 (pv 6) rfl) (ce_call h_signed (hr.mono (by decide)) rfl (ca_1 (ce_v 5 (pv 5) rfl) (ca_1 (ce_v 0 (pv 0) rfl) ca_0)) (v_signed (by omega)) (by decide)) rv_ine (nomark _)) ca_0))) v_put (by decide)) hq)

theorem has_difference_flags {f : Addr} {fd : FuncData} (F : FnP K "difference_flags" s_difference_flags f fd) (g : mg "difference_flags" = some (.ref f)) (h_signed : Has P w K mg base "signed" 2 sp_signed) (h_put : Has P w K mg base "put" 1 sp_put) (h_show : Has P w K mg base "show" 3 sp_show) (h_difference : Has P w K mg base "difference" 2 sp_difference) (c_CARRY : Cst mg "CARRY" 1) (c_HALF_CARRY : Cst mg "HALF_CARRY" 16) (c_OVERFLOW : Cst mg "OVERFLOW" 2048) : Has P w K mg base "difference_flags" 4 sp_difference_flags :=
  ⟨f, fd, _, ok_difference_flags F h_signed h_put h_show h_difference c_CARRY c_HALF_CARRY c_OVERFLOW, g, F.kp, FunD.bindsN F fun _ _ _ _ _ _ us hl => match us, hl with | [_, _, _, _, _], _ => rfl⟩

theorem ok_with_carry_of {f : Addr} {fd : FuncData} (F : FnP K "with_carry_of" s_with_carry_of f fd) (h_carry_of : Has P w K mg base "carry_of" 1 sp_carry_of) (h_put : Has P w K mg base "put" 1 sp_put) (c_CARRY : Cst mg "CARRY" 1) : FnOk P w K mg base CX0 2 f fd ["flags", "before"] sp_with_carry_of := by
  refine FunD.ok F sc_with_carry_of (fun vs H Q E h => ?_) (fun cdv A outer s H vs Q E hr h => ?_)
  · obtain ⟨_, _, rfl, _⟩ := h
    rfl
  · obtain ⟨flags, before, rfl, hq⟩ := h
    exact cr_fin (
        cr_ret (ce_call h_put (hr.mono (by decide)) rfl (ca_1 (ce_v 0 (pv 0) rfl) (ca_1 (ce_g c_CARRY rfl (by decide)) (ca_1 (ce_cmp op_eq (ce_call h_carry_of (hr.mono (by decide)) rfl (ca_1 (ce_v 1 (pv 1) rfl) ca_0) v_carry_of (by decide)) ce_i rv_ieq (nomark _)) ca_0))) v_put (by decide)) hq)

theorem has_with_carry_of {f : Addr} {fd : FuncData} (F : FnP K "with_carry_of" s_with_carry_of f fd) (g : mg "with_carry_of" = some (.ref f)) (h_carry_of : Has P w K mg base "carry_of" 1 sp_carry_of) (h_put : Has P w K mg base "put" 1 sp_put) (c_CARRY : Cst mg "CARRY" 1) : Has P w K mg base "with_carry_of" 2 sp_with_carry_of :=
  ⟨f, fd, _, ok_with_carry_of F h_carry_of h_put c_CARRY, g, F.kp, FunD.bindsN F fun _ _ _ _ _ _ us hl => match us, hl with | [_, _], _ => rfl⟩

theorem ok_op_add {f : Addr} {fd : FuncData} (F : FnP K "op_add" s_op_add f fd) (h_answer : Has P w K mg base "answer" 1 sp_answer) (h_total : Has P w K mg base "total" 2 sp_total) (h_total_flags : Has P w K mg base "total_flags" 4 sp_total_flags) : FnOk P w K mg base CX0 5 f fd ["width", "a", "b", "c", "flags"] sp_op_add := by
  refine FunD.ok F sc_op_add (fun vs H Q E h => ?_) (fun cdv A outer s H vs Q E hr h => ?_)
  · obtain ⟨_, _, _, _, _, rfl, _⟩ := h
    rfl
  · obtain ⟨width, a, b, c, flags, rfl, pre, hq⟩ := h
    exact cr_fin (
        cr_retL (cl_call h_answer (hr.mono (by decide)) rfl (ca_1 (ce_call h_total (hr.mono (by decide)) rfl (ca_1 (ce_v 0 (pv 0) rfl) (ca_1 (ce_v 1 (pv 1) rfl) (ca_1 (ce_v 2 (pv 2) rfl) (ca_1 ce_i ca_0)))) (v_total (by omega)) (by decide)) (ca_1 ce_i (ca_1 (ce_call h_total_flags (hr.mono (by decide)) rfl (ca_1 (ce_v 0 (pv 0) rfl) (ca_1 (ce_v 1 (pv 1) rfl) (ca_1 (ce_v 2 (pv 2) rfl) (ca_1 ce_i (ca_1 (ce_v 4 (pv 4) rfl) ca_0))))) (v_total_flags (by omega)) (by decide)) ca_0))) v_answer (by decide)) hq)

theorem has_op_add {f : Addr} {fd : FuncData} (F : FnP K "op_add" s_op_add f fd) (g : mg "op_add" = some (.ref f)) (h_answer : Has P w K mg base "answer" 1 sp_answer) (h_total : Has P w K mg base "total" 2 sp_total) (h_total_flags : Has P w K mg base "total_flags" 4 sp_total_flags) : Has P w K mg base "op_add" 5 sp_op_add :=
  ⟨f, fd, _, ok_op_add F h_answer h_total h_total_flags, g, F.kp, FunD.bindsN F fun _ _ _ _ _ _ us hl => match us, hl with | [_, _, _, _, _], _ => rfl⟩

theorem ok_op_adc {f : Addr} {fd : FuncData} (F : FnP K "op_adc" s_op_adc f fd) (h_carry_of : Has P w K mg base "carry_of" 1 sp_carry_of) (h_answer : Has P w K mg base "answer" 1 sp_answer) (h_total : Has P w K mg base "total" 2 sp_total) (h_total_flags : Has P w K mg base "total_flags" 4 sp_total_flags) : FnOk P w K mg base CX0 5 f fd ["width", "a", "b", "c", "flags"] sp_op_adc := by
  refine FunD.ok F sc_op_adc (fun vs H Q E h => ?_) (fun cdv A outer s H vs Q E hr h => ?_)
  · obtain ⟨_, _, _, _, _, rfl, _⟩ := h
    rfl
  · obtain ⟨width, a, b, c, flags, rfl, pre, hq⟩ := h
    exact cr_fin (
        cr_set (ce_call h_carry_of (hr.mono (by decide)) rfl (ca_1 (ce_v 4 (pv 4) rfl) ca_0) v_carry_of (by decide)) (fun _ h => ps_set (i := 5) sc_op_adc.nd rfl (Or.inl rfl) h) <|
        cr_retL (cl_call h_answer (hr.mono (by decide)) rfl (ca_1 (ce_call h_total (hr.mono (by decide)) rfl (ca_1 (ce_v 0 (pv 0) rfl) (ca_1 (ce_v 1 (pv 1) rfl) (ca_1 (ce_v 2 (pv 2) rfl) (ca_1 (ce_v 5 (pv 5) rfl) ca_0)))) (v_total (by omega)) (by decide)) (ca_1 ce_i (ca_1 (ce_call h_total_flags (hr.mono (by decide)) rfl (ca_1 (ce_v 0 (pv 0) rfl) (ca_1 (ce_v 1 (pv 1) rfl) (ca_1 (ce_v 2 (pv 2) rfl) (ca_1 (ce_v 5 (pv 5) rfl) (ca_1 (ce_v 4 (pv 4) rfl) ca_0))))) (v_total_flags (by omega)) (by decide)) ca_0))) v_answer (by decide)) hq)

theorem has_op_adc {f : Addr} {fd : FuncData} (F : FnP K "op_adc" s_op_adc f fd) (g : mg "op_adc" = some (.ref f)) (h_carry_of : Has P w K mg base "carry_of" 1 sp_carry_of) (h_answer : Has P w K mg base "answer" 1 sp_answer) (h_total : Has P w K mg base "total" 2 sp_total) (h_total_flags : Has P w K mg base "total_flags" 4 sp_total_flags) : Has P w K mg base "op_adc" 5 sp_op_adc :=
  ⟨f, fd, _, ok_op_adc F h_carry_of h_answer h_total h_total_flags, g, F.kp, FunD.bindsN F fun _ _ _ _ _ _ us hl => match us, hl with | [_, _, _, _, _], _ => rfl⟩

theorem ok_op_sub {f : Addr} {fd : FuncData} (F : FnP K "op_sub" s_op_sub f fd) (h_answer : Has P w K mg base "answer" 1 sp_answer) (h_difference : Has P w K mg base "difference" 2 sp_difference) (h_difference_flags : Has P w K mg base "difference_flags" 4 sp_difference_flags) : FnOk P w K mg base CX0 5 f fd ["width", "a", "b", "c", "flags"] sp_op_sub := by
  refine FunD.ok F sc_op_sub (fun vs H Q E h => ?_) (fun cdv A outer s H vs Q E hr h => ?_)
  · obtain ⟨_, _, _, _, _, rfl, _⟩ := h
    rfl
  · obtain ⟨width, a, b, c, flags, rfl, pre, hq⟩ := h
    exact cr_fin (
        cr_retL (cl_call h_answer (hr.mono (by decide)) rfl (ca_1 (ce_call h_difference (hr.mono (by decide)) rfl (ca_1 (ce_v 0 (pv 0) rfl) (ca_1 (ce_v 1 (pv 1) rfl) (ca_1 (ce_v 2 (pv 2) rfl) (ca_1 ce_i ca_0)))) (v_difference (by omega)) (by decide)) (ca_1 ce_i (ca_1 (ce_call h_difference_flags (hr.mono (by decide)) rfl (ca_1 (ce_v 0 (pv 0) rfl) (ca_1 (ce_v 1 (pv 1) rfl) (ca_1 (ce_v 2 (pv 2) rfl) (ca_1 ce_i (ca_1 (ce_v 4 (pv 4) rfl) ca_0))))) (v_difference_flags (by omega)) (by decide)) ca_0))) v_answer (by decide)) hq)

theorem has_op_sub {f : Addr} {fd : FuncData} (F : FnP K "op_sub" s_op_sub f fd) (g : mg "op_sub" = some (.ref f)) (h_answer : Has P w K mg base "answer" 1 sp_answer) (h_difference : Has P w K mg base "difference" 2 sp_difference) (h_difference_flags : Has P w K mg base "difference_flags" 4 sp_difference_flags) : Has P w K mg base "op_sub" 5 sp_op_sub :=
  ⟨f, fd, _, ok_op_sub F h_answer h_difference h_difference_flags, g, F.kp, FunD.bindsN F fun _ _ _ _ _ _ us hl => match us, hl with | [_, _, _, _, _], _ => rfl⟩

theorem ok_op_sbb {f : Addr} {fd : FuncData} (F : FnP K "op_sbb" s_op_sbb f fd) (h_carry_of : Has P w K mg base "carry_of" 1 sp_carry_of) (h_answer : Has P w K mg base "answer" 1 sp_answer) (h_difference : Has P w K mg base "difference" 2 sp_difference) (h_difference_flags : Has P w K mg base "difference_flags" 4 sp_difference_flags) : FnOk P w K mg base CX0 5 f fd ["width", "a", "b", "c", "flags"] sp_op_sbb := by
  refine FunD.ok F sc_op_sbb (fun vs H Q E h => ?_) (fun cdv A outer s H vs Q E hr h => ?_)
  · obtain ⟨_, _, _, _, _, rfl, _⟩ := h
    rfl
  · obtain ⟨width, a, b, c, flags, rfl, pre, hq⟩ := h
    exact cr_fin (
        cr_set (ce_call h_carry_of (hr.mono (by decide)) rfl (ca_1 (ce_v 4 (pv 4) rfl) ca_0) v_carry_of (by decide)) (fun _ h => ps_set (i := 5) sc_op_sbb.nd rfl (Or.inl rfl) h) <|
        cr_retL (cl_call h_answer (hr.mono (by decide)) rfl (ca_1 (ce_call h_difference (hr.mono (by decide)) rfl (ca_1 (ce_v 0 (pv 0) rfl) (ca_1 (ce_v 1 (pv 1) rfl) (ca_1 (ce_v 2 (pv 2) rfl) (ca_1 (ce_v 5 (pv 5) rfl) ca_0)))) (v_difference (by omega)) (by decide)) (ca_1 ce_i (ca_1 (ce_call h_difference_flags (hr.mono (by decide)) rfl (ca_1 (ce_v 0 (pv 0) rfl) (ca_1 (ce_v 1 (pv 1) rfl) (ca_1 (ce_v 2 (pv 2) rfl) (ca_1 (ce_v 5 (pv 5) rfl) (ca_1 (ce_v 4 (pv 4) rfl) ca_0))))) (v_difference_flags (by omega)) (by decide)) ca_0))) v_answer (by decide)) hq)

theorem has_op_sbb {f : Addr} {fd : FuncData} (F : FnP K "op_sbb" s_op_sbb f fd) (g : mg "op_sbb" = some (.ref f)) (h_carry_of : Has P w K mg base "carry_of" 1 sp_carry_of) (h_answer : Has P w K mg base "answer" 1 sp_answer) (h_difference : Has P w K mg base "difference" 2 sp_difference) (h_difference_flags : Has P w K mg base "difference_flags" 4 sp_difference_flags) : Has P w K mg base "op_sbb" 5 sp_op_sbb :=
  ⟨f, fd, _, ok_op_sbb F h_carry_of h_answer h_difference h_difference_flags, g, F.kp, FunD.bindsN F fun _ _ _ _ _ _ us hl => match us, hl with | [_, _, _, _, _], _ => rfl⟩

theorem ok_op_cmp {f : Addr} {fd : FuncData} (F : FnP K "op_cmp" s_op_cmp f fd) (h_answer : Has P w K mg base "answer" 1 sp_answer) (h_difference_flags : Has P w K mg base "difference_flags" 4 sp_difference_flags) : FnOk P w K mg base CX0 5 f fd ["width", "a", "b", "c", "flags"] sp_op_cmp := by
  refine FunD.ok F sc_op_cmp (fun vs H Q E h => ?_) (fun cdv A outer s H vs Q E hr h => ?_)
  · obtain ⟨_, _, _, _, _, rfl, _⟩ := h
    rfl
  · obtain ⟨width, a, b, c, flags, rfl, pre, hq⟩ := h
    exact cr_fin (
        cr_retL (cl_call h_answer (hr.mono (by decide)) rfl (ca_1 (ce_v 1 (pv 1) rfl) (ca_1 ce_i (ca_1 (ce_call h_difference_flags (hr.mono (by decide)) rfl (ca_1 (ce_v 0 (pv 0) rfl) (ca_1 (ce_v 1 (pv 1) rfl) (ca_1 (ce_v 2 (pv 2) rfl) (ca_1 ce_i (ca_1 (ce_v 4 (pv 4) rfl) ca_0))))) (v_difference_flags (by omega)) (by decide)) ca_0))) v_answer (by decide)) hq)

theorem has_op_cmp {f : Addr} {fd : FuncData} (F : FnP K "op_cmp" s_op_cmp f fd) (g : mg "op_cmp" = some (.ref f)) (h_answer : Has P w K mg base "answer" 1 sp_answer) (h_difference_flags : Has P w K mg base "difference_flags" 4 sp_difference_flags) : Has P w K mg base "op_cmp" 5 sp_op_cmp :=
  ⟨f, fd, _, ok_op_cmp F h_answer h_difference_flags, g, F.kp, FunD.bindsN F fun _ _ _ _ _ _ us hl => match us, hl with | [_, _, _, _, _], _ => rfl⟩

theorem ok_op_neg {f : Addr} {fd : FuncData} (F : FnP K "op_neg" s_op_neg f fd) (h_answer : Has P w K mg base "answer" 1 sp_answer) (h_difference : Has P w K mg base "difference" 2 sp_difference) (h_difference_flags : Has P w K mg base "difference_flags" 4 sp_difference_flags) : FnOk P w K mg base CX0 5 f fd ["width", "a", "b", "c", "flags"] sp_op_neg := by
  refine FunD.ok F sc_op_neg (fun vs H Q E h => ?_) (fun cdv A outer s H vs Q E hr h => ?_)
  · obtain ⟨_, _, _, _, _, rfl, _⟩ := h
    rfl
  · obtain ⟨width, a, b, c, flags, rfl, pre, hq⟩ := h
    exact cr_fin (
        cr_retL (cl_call h_answer (hr.mono (by decide)) rfl (ca_1 (ce_call h_difference (hr.mono (by decide)) rfl (ca_1 (ce_v 0 (pv 0) rfl) (ca_1 ce_i (ca_1 (ce_v 1 (pv 1) rfl) (ca_1 ce_i ca_0)))) (v_difference (by omega)) (by decide)) (ca_1 ce_i (ca_1 (ce_call h_difference_flags (hr.mono (by decide)) rfl (ca_1 (ce_v 0 (pv 0) rfl) (ca_1 ce_i (ca_1 (ce_v 1 (pv 1) rfl) (ca_1 ce_i (ca_1 (ce_v 4 (pv 4) rfl) ca_0))))) (v_difference_flags (by omega)) (by decide)) ca_0))) v_answer (by decide)) hq)

theorem has_op_neg {f : Addr} {fd : FuncData} (F : FnP K "op_neg" s_op_neg f fd) (g : mg "op_neg" = some (.ref f)) (h_answer : Has P w K mg base "answer" 1 sp_answer) (h_difference : Has P w K mg base "difference" 2 sp_difference) (h_difference_flags : Has P w K mg base "difference_flags" 4 sp_difference_flags) : Has P w K mg base "op_neg" 5 sp_op_neg :=
  ⟨f, fd, _, ok_op_neg F h_answer h_difference h_difference_flags, g, F.kp, FunD.bindsN F fun _ _ _ _ _ _ us hl => match us, hl with | [_, _, _, _, _], _ => rfl⟩

theorem ok_op_inc {f : Addr} {fd : FuncData} (F : FnP K "op_inc" s_op_inc f fd) (h_answer : Has P w K mg base "answer" 1 sp_answer) (h_total : Has P w K mg base "total" 2 sp_total) (h_total_flags : Has P w K mg base "total_flags" 4 sp_total_flags) (h_with_carry_of : Has P w K mg base "with_carry_of" 2 sp_with_carry_of) : FnOk P w K mg base CX0 5 f fd ["width", "a", "b", "c", "flags"] sp_op_inc := by
  refine FunD.ok F sc_op_inc (fun vs H Q E h => ?_) (fun cdv A outer s H vs Q E hr h => ?_)
  · obtain ⟨_, _, _, _, _, rfl, _⟩ := h
    rfl
  · obtain ⟨width, a, b, c, flags, rfl, pre, hq⟩ := h
    exact cr_fin (
        cr_set (ce_call h_total_flags (hr.mono (by decide)) rfl (ca_1 (ce_v 0 (pv 0) rfl) (ca_1 (ce_v 1 (pv 1) rfl) (ca_1 ce_i (ca_1 ce_i (ca_1 (ce_v 4 (pv 4) rfl) ca_0))))) (v_total_flags (by omega)) (by decide)) (fun _ h => ps_set (i := 5) sc_op_inc.nd rfl (Or.inl rfl) h) <|
        cr_retL (cl_call h_answer (hr.mono (by decide)) rfl (ca_1 (ce_call h_total (hr.mono (by decide)) rfl (ca_1 (ce_v 0 (pv 0) rfl) (ca_1 (ce_v 1 (pv 1) rfl) (ca_1 ce_i (ca_1 ce_i ca_0)))) (v_total (by omega)) (by decide)) (ca_1 ce_i (ca_1 (ce_call h_with_carry_of (hr.mono (by decide)) rfl (ca_1 (ce_v 5 (pv 5) rfl) (ca_1 (ce_v 4 (pv 4) rfl) ca_0)) v_with_carry_of (by decide)) ca_0))) v_answer (by decide)) hq)

theorem has_op_inc {f : Addr} {fd : FuncData} (F : FnP K "op_inc" s_op_inc f fd) (g : mg "op_inc" = some (.ref f)) (h_answer : Has P w K mg base "answer" 1 sp_answer) (h_total : Has P w K mg base "total" 2 sp_total) (h_total_flags : Has P w K mg base "total_flags" 4 sp_total_flags) (h_with_carry_of : Has P w K mg base "with_carry_of" 2 sp_with_carry_of) : Has P w K mg base "op_inc" 5 sp_op_inc :=
  ⟨f, fd, _, ok_op_inc F h_answer h_total h_total_flags h_with_carry_of, g, F.kp, FunD.bindsN F fun _ _ _ _ _ _ us hl => match us, hl with | [_, _, _, _, _], _ => rfl⟩

theorem ok_op_dec {f : Addr} {fd : FuncData} (F : FnP K "op_dec" s_op_dec f fd) (h_answer : Has P w K mg base "answer" 1 sp_answer) (h_difference : Has P w K mg base "difference" 2 sp_difference) (h_difference_flags : Has P w K mg base "difference_flags" 4 sp_difference_flags) (h_with_carry_of : Has P w K mg base "with_carry_of" 2 sp_with_carry_of) : FnOk P w K mg base CX0 5 f fd ["width", "a", "b", "c", "flags"] sp_op_dec := by
  refine FunD.ok F sc_op_dec (fun vs H Q E h => ?_) (fun cdv A outer s H vs Q E hr h => ?_)
  · obtain ⟨_, _, _, _, _, rfl, _⟩ := h
    rfl
  · obtain ⟨width, a, b, c, flags, rfl, pre, hq⟩ := h
    exact cr_fin (
        cr_set (ce_call h_difference_flags (hr.mono (by decide)) rfl (ca_1 (ce_v 0 (pv 0) rfl) (ca_1 (ce_v 1 (pv 1) rfl) (ca_1 ce_i (ca_1 ce_i (ca_1 (ce_v 4 (pv 4) rfl) ca_0))))) (v_difference_flags (by omega)) (by decide)) (fun _ h => ps_set (i := 5) sc_op_dec.nd rfl (Or.inl rfl) h) <|
        cr_retL (cl_call h_answer (hr.mono (by decide)) rfl (ca_1 (ce_call h_difference (hr.mono (by decide)) rfl (ca_1 (ce_v 0 (pv 0) rfl) (ca_1 (ce_v 1 (pv 1) rfl) (ca_1 ce_i (ca_1 ce_i ca_0)))) (v_difference (by omega)) (by decide)) (ca_1 ce_i (ca_1 (ce_call h_with_carry_of (hr.mono (by decide)) rfl (ca_1 (ce_v 5 (pv 5) rfl) (ca_1 (ce_v 4 (pv 4) rfl) ca_0)) v_with_carry_of (by decide)) ca_0))) v_answer (by decide)) hq)

theorem has_op_dec {f : Addr} {fd : FuncData} (F : FnP K "op_dec" s_op_dec f fd) (g : mg "op_dec" = some (.ref f)) (h_answer : Has P w K mg base "answer" 1 sp_answer) (h_difference : Has P w K mg base "difference" 2 sp_difference) (h_difference_flags : Has P w K mg base "difference_flags" 4 sp_difference_flags) (h_with_carry_of : Has P w K mg base "with_carry_of" 2 sp_with_carry_of) : Has P w K mg base "op_dec" 5 sp_op_dec :=
  ⟨f, fd, _, ok_op_dec F h_answer h_difference h_difference_flags h_with_carry_of, g, F.kp, FunD.bindsN F fun _ _ _ _ _ _ us hl => match us, hl with | [_, _, _, _, _], _ => rfl⟩

theorem ok_op_xadd {f : Addr} {fd : FuncData} (F : FnP K "op_xadd" s_op_xadd f fd) (h_answer : Has P w K mg base "answer" 1 sp_answer) (h_total : Has P w K mg base "total" 2 sp_total) (h_total_flags : Has P w K mg base "total_flags" 4 sp_total_flags) : FnOk P w K mg base CX0 5 f fd ["width", "a", "b", "c", "flags"] sp_op_xadd := by
  refine FunD.ok F sc_op_xadd (fun vs H Q E h => ?_) (fun cdv A outer s H vs Q E hr h => ?_)
  · obtain ⟨_, _, _, _, _, rfl, _⟩ := h
    rfl
  · obtain ⟨width, a, b, c, flags, rfl, pre, hq⟩ := h
    exact cr_fin (
        cr_retL (cl_call h_answer (hr.mono (by decide)) rfl (ca_1 (ce_call h_total (hr.mono (by decide)) rfl (ca_1 (ce_v 0 (pv 0) rfl) (ca_1 (ce_v 1 (pv 1) rfl) (ca_1 (ce_v 2 (pv 2) rfl) (ca_1 ce_i ca_0)))) (v_total (by omega)) (by decide)) (ca_1 (ce_v 1 (pv 1) rfl) (ca_1 (ce_call h_total_flags (hr.mono (by decide)) rfl (ca_1 (ce_v 0 (pv 0) rfl) (ca_1 (ce_v 1 (pv 1) rfl) (ca_1 (ce_v 2 (pv 2) rfl) (ca_1 ce_i (ca_1 (ce_v 4 (pv 4) rfl) ca_0))))) (v_total_flags (by omega)) (by decide)) ca_0))) v_answer (by decide)) hq)

theorem has_op_xadd {f : Addr} {fd : FuncData} (F : FnP K "op_xadd" s_op_xadd f fd) (g : mg "op_xadd" = some (.ref f)) (h_answer : Has P w K mg base "answer" 1 sp_answer) (h_total : Has P w K mg base "total" 2 sp_total) (h_total_flags : Has P w K mg base "total_flags" 4 sp_total_flags) : Has P w K mg base "op_xadd" 5 sp_op_xadd :=
  ⟨f, fd, _, ok_op_xadd F h_answer h_total h_total_flags, g, F.kp, FunD.bindsN F fun _ _ _ _ _ _ us hl => match us, hl with | [_, _, _, _, _], _ => rfl⟩

theorem ok_op_cmpxchg {f : Addr} {fd : FuncData} (F : FnP K "op_cmpxchg" s_op_cmpxchg f fd) (h_answer : Has P w K mg base "answer" 1 sp_answer) (h_difference_flags : Has P w K mg base "difference_flags" 4 sp_difference_flags) : FnOk P w K mg base CX0 5 f fd ["width", "a", "b", "c", "flags"] sp_op_cmpxchg := by
  refine FunD.ok F sc_op_cmpxchg (fun vs H Q E h => ?_) (fun cdv A outer s H vs Q E hr h => ?_)
  · obtain ⟨_, _, _, _, _, rfl, _⟩ := h
    rfl
  · obtain ⟨width, a, b, c, flags, rfl, pre, hq⟩ := h
    exact cr_fin (
        cr_set (ce_if (ct_cmp op_eq (ce_v 3 (pv 3) rfl) (ce_v 1 (pv 1) rfl) rv_ieq (nomark _)) (ce_v 2 (pv 2) rfl) (ce_v 1 (pv 1) rfl)) (fun _ h => ps_set (i := 5) sc_op_cmpxchg.nd rfl (Or.inl rfl) h) <|
        cr_retL (cl_call h_answer (hr.mono (by decide)) rfl (ca_1 (ce_v 5 (pv 5) rfl) (ca_1 (ce_v 1 (pv 1) rfl) (ca_1 (ce_call h_difference_flags (hr.mono (by decide)) rfl (ca_1 (ce_v 0 (pv 0) rfl) (ca_1 (ce_v 3 (pv 3) rfl) (ca_1 (ce_v 1 (pv 1) rfl) (ca_1 ce_i (ca_1 (ce_v 4 (pv 4) rfl) ca_0))))) (v_difference_flags (by omega)) (by decide)) ca_0))) v_answer (by decide)) hq)

theorem has_op_cmpxchg {f : Addr} {fd : FuncData} (F : FnP K "op_cmpxchg" s_op_cmpxchg f fd) (g : mg "op_cmpxchg" = some (.ref f)) (h_answer : Has P w K mg base "answer" 1 sp_answer) (h_difference_flags : Has P w K mg base "difference_flags" 4 sp_difference_flags) : Has P w K mg base "op_cmpxchg" 5 sp_op_cmpxchg :=
  ⟨f, fd, _, ok_op_cmpxchg F h_answer h_difference_flags, g, F.kp, FunD.bindsN F fun _ _ _ _ _ _ us hl => match us, hl with | [_, _, _, _, _], _ => rfl⟩

theorem ok_run_sum {f : Addr} {fd : FuncData} (F : FnP K "run_sum" s_run_sum f fd) (h_op_add : Has P w K mg base "op_add" 5 sp_op_add) (h_op_adc : Has P w K mg base "op_adc" 5 sp_op_adc) (h_op_sub : Has P w K mg base "op_sub" 5 sp_op_sub) (h_op_sbb : Has P w K mg base "op_sbb" 5 sp_op_sbb) (h_op_cmp : Has P w K mg base "op_cmp" 5 sp_op_cmp) (h_op_neg : Has P w K mg base "op_neg" 5 sp_op_neg) (h_op_inc : Has P w K mg base "op_inc" 5 sp_op_inc) (h_op_dec : Has P w K mg base "op_dec" 5 sp_op_dec) (h_op_xadd : Has P w K mg base "op_xadd" 5 sp_op_xadd) (h_op_cmpxchg : Has P w K mg base "op_cmpxchg" 5 sp_op_cmpxchg) (t_SUM_STEPS : Tab mg K "SUM_STEPS" [(0, "op_add"), (1, "op_adc"), (2, "op_sub"), (3, "op_sbb"), (4, "op_cmp"), (5, "op_neg"), (6, "op_inc"), (7, "op_dec"), (33, "op_xadd"), (34, "op_cmpxchg")]) : FnOk P w K mg base CX0 6 f fd ["op", "width", "a", "b", "c", "flags"] sp_run_sum := by
  refine FunD.ok F sc_run_sum (fun vs H Q E h => ?_) (fun cdv A outer s H vs Q E hr h => ?_)
  · obtain ⟨_, _, _, _, _, _, rfl, _⟩ := h
    rfl
  · obtain ⟨op, width, a, b, c, flags, rfl, pre, hq⟩ := h
    have hop : op = 0 ∨ op = 1 ∨ op = 2 ∨ op = 3 ∨ op = 4 ∨ op = 5 ∨ op = 6 ∨ op = 7 ∨ op = 33 ∨ op = 34 := by omega
    refine cr_fin ?_
    rcases hop with rfl | rfl | rfl | rfl | rfl | rfl | rfl | rfl | rfl | rfl
    · exact cr_step (n := 6) (i := 0) (y := "op_add") t_SUM_STEPS (by decide) h_op_add (hr.mono (by decide)) (v_op_add pre.2) (pv 6) (ce_v 0 (pv 0) rfl) (fun _ => rfl) (fun _ h => ps_set (i := 6) sc_run_sum.nd rfl (Or.inl rfl) h) (fun _ => (ca_1 (ce_v 1 (pv 1) rfl) (ca_1 (ce_v 2 (pv 2) rfl) (ca_1 (ce_v 3 (pv 3) rfl) (ca_1 (ce_v 4 (pv 4) rfl) (ca_1 (ce_v 5 (pv 5) rfl) ca_0)))))) hq
    · exact cr_step (n := 6) (i := 1) (y := "op_adc") t_SUM_STEPS (by decide) h_op_adc (hr.mono (by decide)) (v_op_adc pre.2) (pv 6) (ce_v 0 (pv 0) rfl) (fun _ => rfl) (fun _ h => ps_set (i := 6) sc_run_sum.nd rfl (Or.inl rfl) h) (fun _ => (ca_1 (ce_v 1 (pv 1) rfl) (ca_1 (ce_v 2 (pv 2) rfl) (ca_1 (ce_v 3 (pv 3) rfl) (ca_1 (ce_v 4 (pv 4) rfl) (ca_1 (ce_v 5 (pv 5) rfl) ca_0)))))) hq
    · exact cr_step (n := 6) (i := 2) (y := "op_sub") t_SUM_STEPS (by decide) h_op_sub (hr.mono (by decide)) (v_op_sub pre.2) (pv 6) (ce_v 0 (pv 0) rfl) (fun _ => rfl) (fun _ h => ps_set (i := 6) sc_run_sum.nd rfl (Or.inl rfl) h) (fun _ => (ca_1 (ce_v 1 (pv 1) rfl) (ca_1 (ce_v 2 (pv 2) rfl) (ca_1 (ce_v 3 (pv 3) rfl) (ca_1 (ce_v 4 (pv 4) rfl) (ca_1 (ce_v 5 (pv 5) rfl) ca_0)))))) hq
    · exact cr_step (n := 6) (i := 3) (y := "op_sbb") t_SUM_STEPS (by decide) h_op_sbb (hr.mono (by decide)) (v_op_sbb pre.2) (pv 6) (ce_v 0 (pv 0) rfl) (fun _ => rfl) (fun _ h => ps_set (i := 6) sc_run_sum.nd rfl (Or.inl rfl) h) (fun _ => (ca_1 (ce_v 1 (pv 1) rfl) (ca_1 (ce_v 2 (pv 2) rfl) (ca_1 (ce_v 3 (pv 3) rfl) (ca_1 (ce_v 4 (pv 4) rfl) (ca_1 (ce_v 5 (pv 5) rfl) ca_0)))))) hq
    · exact cr_step (n := 6) (i := 4) (y := "op_cmp") t_SUM_STEPS (by decide) h_op_cmp (hr.mono (by decide)) (v_op_cmp pre.2) (pv 6) (ce_v 0 (pv 0) rfl) (fun _ => rfl) (fun _ h => ps_set (i := 6) sc_run_sum.nd rfl (Or.inl rfl) h) (fun _ => (ca_1 (ce_v 1 (pv 1) rfl) (ca_1 (ce_v 2 (pv 2) rfl) (ca_1 (ce_v 3 (pv 3) rfl) (ca_1 (ce_v 4 (pv 4) rfl) (ca_1 (ce_v 5 (pv 5) rfl) ca_0)))))) hq
    · exact cr_step (n := 6) (i := 5) (y := "op_neg") t_SUM_STEPS (by decide) h_op_neg (hr.mono (by decide)) (v_op_neg pre.2) (pv 6) (ce_v 0 (pv 0) rfl) (fun _ => rfl) (fun _ h => ps_set (i := 6) sc_run_sum.nd rfl (Or.inl rfl) h) (fun _ => (ca_1 (ce_v 1 (pv 1) rfl) (ca_1 (ce_v 2 (pv 2) rfl) (ca_1 (ce_v 3 (pv 3) rfl) (ca_1 (ce_v 4 (pv 4) rfl) (ca_1 (ce_v 5 (pv 5) rfl) ca_0)))))) hq
    · exact cr_step (n := 6) (i := 6) (y := "op_inc") t_SUM_STEPS (by decide) h_op_inc (hr.mono (by decide)) (v_op_inc pre.2) (pv 6) (ce_v 0 (pv 0) rfl) (fun _ => rfl) (fun _ h => ps_set (i := 6) sc_run_sum.nd rfl (Or.inl rfl) h) (fun _ => (ca_1 (ce_v 1 (pv 1) rfl) (ca_1 (ce_v 2 (pv 2) rfl) (ca_1 (ce_v 3 (pv 3) rfl) (ca_1 (ce_v 4 (pv 4) rfl) (ca_1 (ce_v 5 (pv 5) rfl) ca_0)))))) hq
    · exact cr_step (n := 6) (i := 7) (y := "op_dec") t_SUM_STEPS (by decide) h_op_dec (hr.mono (by decide)) (v_op_dec pre.2) (pv 6) (ce_v 0 (pv 0) rfl) (fun _ => rfl) (fun _ h => ps_set (i := 6) sc_run_sum.nd rfl (Or.inl rfl) h) (fun _ => (ca_1 (ce_v 1 (pv 1) rfl) (ca_1 (ce_v 2 (pv 2) rfl) (ca_1 (ce_v 3 (pv 3) rfl) (ca_1 (ce_v 4 (pv 4) rfl) (ca_1 (ce_v 5 (pv 5) rfl) ca_0)))))) hq
    · exact cr_step (n := 6) (i := 33) (y := "op_xadd") t_SUM_STEPS (by decide) h_op_xadd (hr.mono (by decide)) (v_op_xadd pre.2) (pv 6) (ce_v 0 (pv 0) rfl) (fun _ => rfl) (fun _ h => ps_set (i := 6) sc_run_sum.nd rfl (Or.inl rfl) h) (fun _ => (ca_1 (ce_v 1 (pv 1) rfl) (ca_1 (ce_v 2 (pv 2) rfl) (ca_1 (ce_v 3 (pv 3) rfl) (ca_1 (ce_v 4 (pv 4) rfl) (ca_1 (ce_v 5 (pv 5) rfl) ca_0)))))) hq
    · exact cr_step (n := 6) (i := 34) (y := "op_cmpxchg") t_SUM_STEPS (by decide) h_op_cmpxchg (hr.mono (by decide)) (v_op_cmpxchg pre.2) (pv 6) (ce_v 0 (pv 0) rfl) (fun _ => rfl) (fun _ h => ps_set (i := 6) sc_run_sum.nd rfl (Or.inl rfl) h) (fun _ => (ca_1 (ce_v 1 (pv 1) rfl) (ca_1 (ce_v 2 (pv 2) rfl) (ca_1 (ce_v 3 (pv 3) rfl) (ca_1 (ce_v 4 (pv 4) rfl) (ca_1 (ce_v 5 (pv 5) rfl) ca_0)))))) hq

theorem has_run_sum {f : Addr} {fd : FuncData} (F : FnP K "run_sum" s_run_sum f fd) (g : mg "run_sum" = some (.ref f)) (h_op_add : Has P w K mg base "op_add" 5 sp_op_add) (h_op_adc : Has P w K mg base "op_adc" 5 sp_op_adc) (h_op_sub : Has P w K mg base "op_sub" 5 sp_op_sub) (h_op_sbb : Has P w K mg base "op_sbb" 5 sp_op_sbb) (h_op_cmp : Has P w K mg base "op_cmp" 5 sp_op_cmp) (h_op_neg : Has P w K mg base "op_neg" 5 sp_op_neg) (h_op_inc : Has P w K mg base "op_inc" 5 sp_op_inc) (h_op_dec : Has P w K mg base "op_dec" 5 sp_op_dec) (h_op_xadd : Has P w K mg base "op_xadd" 5 sp_op_xadd) (h_op_cmpxchg : Has P w K mg base "op_cmpxchg" 5 sp_op_cmpxchg) (t_SUM_STEPS : Tab mg K "SUM_STEPS" [(0, "op_add"), (1, "op_adc"), (2, "op_sub"), (3, "op_sbb"), (4, "op_cmp"), (5, "op_neg"), (6, "op_inc"), (7, "op_dec"), (33, "op_xadd"), (34, "op_cmpxchg")]) : Has P w K mg base "run_sum" 6 sp_run_sum :=
  ⟨f, fd, _, ok_run_sum F h_op_add h_op_adc h_op_sub h_op_sbb h_op_cmp h_op_neg h_op_inc h_op_dec h_op_xadd h_op_cmpxchg t_SUM_STEPS, g, F.kp, FunD.bindsN F fun _ _ _ _ _ _ us hl => match us, hl with | [_, _, _, _, _, _], _ => rfl⟩

theorem ok_widths_of {f : Addr} {fd : FuncData} (F : FnP K "widths_of" s_widths_of f fd)  : FnOk P w K mg base CX0 1 f fd ["op"] sp_widths_of := by
  refine FunD.ok F sc_widths_of (fun vs H Q E h => ?_) (fun cdv A outer s H vs Q E hr h => ?_)
  · obtain ⟨_, rfl, _⟩ := h
    rfl
  · obtain ⟨op, rfl, hq⟩ := h
    exact cr_fin (
        cr_if (ct_cmp op_gt (ce_v 0 (pv 0) rfl) ce_i rv_I0 (nomark _)) (fun hp1 =>
          cr_retU (cu_tup ca_0 (by exact (by decide : 0 ≤ 100000))) (retu_t hp1 hq)) fun hp1 =>
        cr_if (ct_cmp op_ge (ce_v 0 (pv 0) rfl) ce_i rv_I0 (nomark _)) (fun hp2 =>
          cr_retU (cu_tup (ca_1 ce_i ca_0) (by exact (by decide : 1 ≤ 100000))) (retu_t hp2 (retu_f hp1 hq))) fun hp2 =>
        cr_if (ct_cmp op_ge (ce_v 0 (pv 0) rfl) ce_i rv_I0 (nomark _)) (fun hp3 =>
          cr_retU (cu_tup (ca_1 ce_i ca_0) (by exact (by decide : 1 ≤ 100000))) (retu_t hp3 (retu_f hp2 (retu_f hp1 hq)))) fun hp3 =>
        cr_if (ct_cmp op_eq (ce_v 0 (pv 0) rfl) ce_i rv_ieq (nomark _)) (fun hp4 =>
          cr_retU (cu_tup (ca_1 ce_i (ca_1 ce_i ca_0)) (by exact (by decide : 2 ≤ 100000))) (retu_t hp4 (retu_f hp3 (retu_f hp2 (retu_f hp1 hq))))) fun hp4 =>
        cr_if (ct_or (ct_chain op_le op_le ce_i (ce_v 0 (pv 0) rfl) ce_i rv_I0 rv_I0) (ct_chain op_le op_le ce_i (ce_v 0 (pv 0) rfl) ce_i rv_I0 rv_I0)) (fun hp5 =>
          cr_retU (cu_tup (ca_1 ce_i (ca_1 ce_i (ca_1 ce_i ca_0))) (by exact (by decide : 3 ≤ 100000))) (retu_t hp5 (retu_f hp4 (retu_f hp3 (retu_f hp2 (retu_f hp1 hq)))))) fun hp5 =>
        cr_retU (cu_tup (ca_1 ce_i (ca_1 ce_i (ca_1 ce_i (ca_1 ce_i ca_0)))) (by exact (by decide : 4 ≤ 100000))) (retu_f hp5 (retu_f hp4 (retu_f hp3 (retu_f hp2 (retu_f hp1 hq))))))

theorem has_widths_of {f : Addr} {fd : FuncData} (F : FnP K "widths_of" s_widths_of f fd) (g : mg "widths_of" = some (.ref f))  : Has P w K mg base "widths_of" 1 sp_widths_of :=
  ⟨f, fd, _, ok_widths_of F , g, F.kp, FunD.bindsN F fun _ _ _ _ _ _ us hl => match us, hl with | [_], _ => rfl⟩

theorem ok_run {f : Addr} {fd : FuncData} (F : FnP K "run" s_run f fd) (h_run_decimal : Has P w K mg base "run_decimal" 5 sp_run_decimal) (h_run_place : Has P w K mg base "run_place" 6 sp_run_place) (h_run_product : Has P w K mg base "run_product" 4 sp_run_product) (h_run_shift : Has P w K mg base "run_shift" 6 sp_run_shift) (h_run_sum : Has P w K mg base "run_sum" 6 sp_run_sum) : FnOk P w K mg base CX0 7 f fd ["op", "width", "a", "b", "c", "flags"] sp_run := by
  refine FunD.ok F sc_run (fun vs H Q E h => ?_) (fun cdv A outer s H vs Q E hr h => ?_)
  · obtain ⟨_, _, _, _, _, _, rfl, _⟩ := h
    rfl
  · obtain ⟨op, width, a, b, c, flags, rfl, pre, hq⟩ := h
    exact cr_fin (
        cr_if (ct_or (ct_cmp op_le (ce_v 0 (pv 0) rfl) ce_i rv_I0 (nomark _)) (ct_chain op_le op_le ce_i (ce_v 0 (pv 0) rfl) ce_i rv_I0 rv_I0)) (fun hp1 =>
          cr_retL (cl_call h_run_sum (hr.mono (by decide)) rfl (ca_1 (ce_v 0 (pv 0) rfl) (ca_1 (ce_v 1 (pv 1) rfl) (ca_1 (ce_v 2 (pv 2) rfl) (ca_1 (ce_v 3 (pv 3) rfl) (ca_1 (ce_v 4 (pv 4) rfl) (ca_1 (ce_v 5 (pv 5) rfl) ca_0)))))) (v_run_sum ⟨by have q1 := hp1; simp only [Bool.or_eq_true, Bool.and_eq_true, decide_eq_true_eq, Bool.or_eq_false_iff, Bool.and_eq_false_iff, decide_eq_false_iff_not] at q1; omega, pre.2⟩) (by decide)) (retl_t hp1 hq)) fun hp1 =>
        cr_if (ct_chain op_le op_le ce_i (ce_v 0 (pv 0) rfl) ce_i rv_I0 rv_I0) (fun hp2 =>
          cr_retL (cl_call h_run_shift (hr.mono (by decide)) rfl (ca_1 (ce_v 0 (pv 0) rfl) (ca_1 (ce_v 1 (pv 1) rfl) (ca_1 (ce_v 2 (pv 2) rfl) (ca_1 (ce_v 3 (pv 3) rfl) (ca_1 (ce_v 4 (pv 4) rfl) (ca_1 (ce_v 5 (pv 5) rfl) ca_0)))))) (v_run_shift ⟨by have q2 := hp2; simp only [Bool.or_eq_true, Bool.and_eq_true, decide_eq_true_eq, Bool.or_eq_false_iff, Bool.and_eq_false_iff, decide_eq_false_iff_not] at q2; omega, pre.2⟩) (by decide)) (retl_t hp2 (retl_f hp1 hq))) fun hp2 =>
        cr_if (ct_chain op_le op_le ce_i (ce_v 0 (pv 0) rfl) ce_i rv_I0 rv_I0) (fun hp3 =>
          cr_retL (cl_call h_run_product (hr.mono (by decide)) rfl (ca_1 (ce_v 0 (pv 0) rfl) (ca_1 (ce_v 1 (pv 1) rfl) (ca_1 (ce_v 2 (pv 2) rfl) (ca_1 (ce_v 3 (pv 3) rfl) (ca_1 (ce_v 4 (pv 4) rfl) (ca_1 (ce_v 5 (pv 5) rfl) ca_0)))))) (v_run_product ⟨by have q3 := hp3; simp only [Bool.or_eq_true, Bool.and_eq_true, decide_eq_true_eq, Bool.or_eq_false_iff, Bool.and_eq_false_iff, decide_eq_false_iff_not] at q3; omega, pre.2⟩) (by decide)) (retl_t hp3 (retl_f hp2 (retl_f hp1 hq)))) fun hp3 =>
        cr_if (ct_cmp op_ge (ce_v 0 (pv 0) rfl) ce_i rv_I0 (nomark _)) (fun hp4 =>
          cr_retL (cl_call h_run_decimal (hr.mono (by decide)) rfl (ca_1 (ce_v 0 (pv 0) rfl) (ca_1 (ce_v 1 (pv 1) rfl) (ca_1 (ce_v 2 (pv 2) rfl) (ca_1 (ce_v 3 (pv 3) rfl) (ca_1 (ce_v 4 (pv 4) rfl) (ca_1 (ce_v 5 (pv 5) rfl) ca_0)))))) (v_run_decimal ⟨by have q4 := hp4; simp only [Bool.or_eq_true, Bool.and_eq_true, decide_eq_true_eq, Bool.or_eq_false_iff, Bool.and_eq_false_iff, decide_eq_false_iff_not] at q4; omega, pre.2⟩) (by decide)) (retl_t hp4 (retl_f hp3 (retl_f hp2 (retl_f hp1 hq))))) fun hp4 =>
        cr_retL (cl_call h_run_place (hr.mono (by decide)) rfl (ca_1 (ce_v 0 (pv 0) rfl) (ca_1 (ce_v 1 (pv 1) rfl) (ca_1 (ce_v 2 (pv 2) rfl) (ca_1 (ce_v 3 (pv 3) rfl) (ca_1 (ce_v 4 (pv 4) rfl) (ca_1 (ce_v 5 (pv 5) rfl) ca_0)))))) (v_run_place ⟨by have q1 := hp1; have q2 := hp2; have q3 := hp3; have q4 := hp4; simp only [Bool.or_eq_true, Bool.and_eq_true, decide_eq_true_eq, Bool.or_eq_false_iff, Bool.and_eq_false_iff, decide_eq_false_iff_not] at q1 q2 q3 q4; omega, pre.2⟩) (by decide)) (retl_f hp4 (retl_f hp3 (retl_f hp2 (retl_f hp1 hq)))))

theorem has_run {f : Addr} {fd : FuncData} (F : FnP K "run" s_run f fd) (g : mg "run" = some (.ref f)) (h_run_decimal : Has P w K mg base "run_decimal" 5 sp_run_decimal) (h_run_place : Has P w K mg base "run_place" 6 sp_run_place) (h_run_product : Has P w K mg base "run_product" 4 sp_run_product) (h_run_shift : Has P w K mg base "run_shift" 6 sp_run_shift) (h_run_sum : Has P w K mg base "run_sum" 6 sp_run_sum) : Has P w K mg base "run" 7 sp_run :=
  ⟨f, fd, _, ok_run F h_run_decimal h_run_place h_run_product h_run_shift h_run_sum, g, F.kp, FunD.bindsN F fun _ _ _ _ _ _ us hl => match us, hl with | [_, _, _, _, _, _], _ => rfl⟩

theorem ok_do {f : Addr} {fd : FuncData} (F : FnP K "do" s_do f fd) (h_greatest : Has P w K mg base "greatest" 1 sp_greatest) (h_widths_of : Has P w K mg base "widths_of" 1 sp_widths_of) (h_run : Has P w K mg base "run" 7 sp_run) : FnOk P w K mg base CX0 8 f fd ["op", "width", "a", "b", "c", "flags"] sp_do := by
  refine FunD.ok F sc_do (fun vs H Q E h => ?_) (fun cdv A outer s H vs Q E hr h => ?_)
  · obtain ⟨_, _, _, _, _, _, rfl, _⟩ := h
    rfl
  · obtain ⟨op, width, a, b, c, flags, rfl, pre, hq⟩ := h
    exact cr_fin (cr_if (ct_is (ct_niU (ce_v 1 (pv 1) rfl) (cu_call h_widths_of (hr.mono (by decide)) rfl (ca_1 (ce_v 0 (pv 0) rfl) ca_0) v_widths_of (by decide)) rfl (flat_ints _)) (inV_ints _ _))
      (fun hp => cr_retL (cl_lst (ca_1 (ce_neg ce_i) ca_0) (by exact (by decide : 1 ≤ 100000))) (retl_t hp hq)) fun hp =>
      cr_set (ce_call h_greatest (hr.mono (by decide)) rfl (ca_1 (ce_v 1 (pv 1) rfl) ca_0) (v_greatest (widths_small hp)) (by decide)) (fun _ h => ps_set (i := 6) sc_do.nd rfl (Or.inl rfl) h) <|
      cr_retL (cl_call h_run (hr.mono (by decide)) rfl (ca_1 (ce_v 0 (pv 0) rfl) (ca_1 (ce_v 1 (pv 1) rfl) (ca_1 (ce_and (ce_v 2 (pv 2) rfl) (ce_v 6 (pv 6) rfl)) (ca_1 (ce_and (ce_v 3 (pv 3) rfl) (ce_v 6 (pv 6) rfl)) (ca_1 (ce_and (ce_v 4 (pv 4) rfl) (ce_v 6 (pv 6) rfl)) (ca_1 (ce_v 5 (pv 5) rfl) ca_0)))))) (v_run (do_pre pre hp)) (by decide)) (retl_f hp hq))

theorem has_do {f : Addr} {fd : FuncData} (F : FnP K "do" s_do f fd) (g : mg "do" = some (.ref f)) (h_greatest : Has P w K mg base "greatest" 1 sp_greatest) (h_widths_of : Has P w K mg base "widths_of" 1 sp_widths_of) (h_run : Has P w K mg base "run" 7 sp_run) : Has P w K mg base "do" 8 sp_do :=
  ⟨f, fd, _, ok_do F h_greatest h_widths_of h_run, g, F.kp, FunD.bindsN F fun _ _ _ _ _ _ us hl => match us, hl with | [_, _, _, _, _, _], _ => rfl⟩

end
end My

/-! ### The mathematics: what the defs reckon is what the specification says. Numbers, flags -/
namespace My
open PySem PyProof.Rows
theorem two_succ {w : Nat} (h : 1 ≤ w) : 2 ^ w = 2 * 2 ^ (w - 1) := by
  obtain ⟨n, rfl⟩ : ∃ n, w = n + 1 := ⟨w - 1, by omega⟩
  rw [Nat.pow_succ, Nat.mul_comm]
  rfl
theorem great (w : Nat) : m_greatest (w : Int) = 2 ^ w - 1 := by
  unfold m_greatest
  rw [Int.one_mul, Int.toNat_natCast]
theorem and_great (z : Int) (w : Nat) : Builtin.bitAnd z (m_greatest (w : Int)) = z % 2 ^ w := by
  rw [great, PySem.W.kbt_mask]
theorem and_great_nat (x w : Nat) : Builtin.bitAnd (x : Int) (m_greatest (w : Int)) = ((x % 2 ^ w : Nat) : Int) := by
  rw [and_great]
  norm_cast
theorem bit_nat (x i : Nat) : m_bit (x : Int) (i : Int) = ((x / 2 ^ i % 2 : Nat) : Int) := by
  rw [bit_eq, Int.toNat_natCast]
  norm_cast
theorem bit_is {x i : Nat} {j : Int} (h : j = (i : Int)) : decide (m_bit (x : Int) j = 1) = FwOps.bitAt x i := by
  subst h
  rw [bit_nat]
  unfold FwOps.bitAt
  rw [decide_eq_decide]
  omega
theorem bit_val {x i : Nat} {j : Int} (h : j = (i : Int)) : m_bit (x : Int) j = if FwOps.bitAt x i = true then 1 else 0 := by
  subst h
  rw [bit_nat]
  unfold FwOps.bitAt
  simp only [decide_eq_true_eq]
  split <;> omega
theorem carry_val (f : Nat) : m_carry_of (f : Int) = if FwOps.bitAt f 0 = true then 1 else 0 := by
  rw [carry_eq]
  unfold FwOps.bitAt
  simp only [decide_eq_true_eq, Nat.pow_zero, Nat.div_one]
  split <;> omega
theorem put_nat {f i : Nat} {h : Bool} {m : Int} (hm : m = 2 ^ i) : m_put (f : Int) m h = ((FwOps.put f (i, h) : Nat) : Int) := by
  subst hm
  unfold m_put FwOps.put FwOps.bitAt
  dsimp only
  have e1 : (f : Int) / 2 ^ i % 2 = ((f / 2 ^ i % 2 : Nat) : Int) := by norm_cast
  have e2 : (2 : Int) ^ i = ((2 ^ i : Nat) : Int) := pw_cast i
  have hp : 0 < 2 ^ i := Nat.two_pow_pos i
  rw [bitOr_and, bitAnd_not, PySem.W.kbt_bit, e1, e2]
  have hle : f / 2 ^ i % 2 = 1 → 2 ^ i ≤ f := fun h1 => by
    by_cases hlt : f < 2 ^ i
    · rw [Nat.div_eq_of_lt hlt] at h1
      omega
    · omega
  rcases (by omega : f / 2 ^ i % 2 = 0 ∨ f / 2 ^ i % 2 = 1) with h1 | h1
  · rw [h1]
    cases h <;> simp
  · have h2 := hle h1
    rw [h1]
    cases h
    · simp
      omega
    · simp
theorem give_app (f : Nat) (l k : List FwOps.Given) : FwOps.giving f (l ++ k) = FwOps.giving (FwOps.giving f l) k := List.foldl_append
theorem give_one (f : Nat) (g : FwOps.Given) (l : List FwOps.Given) : FwOps.giving f (g :: l) = FwOps.giving (FwOps.put f g) l := rfl
theorem give_nil (f : Nat) : FwOps.giving f [] = f := rfl
theorem ones_nat (x : Nat) : ∀ n : Nat, m_ones (x : Int) n = (((List.range n).filter fun i => FwOps.bitAt x i).length : Nat)
  | 0 => rfl
  | n + 1 => by
    show m_ones (x : Int) n + m_bit (x : Int) (n : Int) = _
    rw [ones_nat x n, bit_val rfl, List.range_succ, List.filter_append, List.length_append]
    cases h : FwOps.bitAt x n <;> simp [h]
theorem even_nat (x : Nat) : m_is_even_parity (x : Int) = FwOps.even8 x := by
  unfold m_is_even_parity FwOps.even8
  rw [ones_nat, decide_eq_decide]
  omega
theorem show_nat {f x w : Nat} (hw : 1 ≤ w) : m_show (f : Int) (x : Int) (w : Int) = ((FwOps.giving f (FwOps.shows w x) : Nat) : Int) := by
  unfold m_show
  dsimp only
  have e1 : decide ((x : Int) = 0) = decide (x = 0) := by
    rw [decide_eq_decide]
    omega
  rw [e1, bit_is (i := w - 1) (by omega), even_nat, put_nat (i := 6) (by decide), put_nat (i := 7) (by decide), put_nat (i := 2) (by decide)]
  rfl
theorem top_bit {x w : Nat} (hx : x < 2 ^ w) (hw : 1 ≤ w) : FwOps.bitAt x (w - 1) = decide (2 ^ (w - 1) ≤ x) := by
  unfold FwOps.bitAt
  rw [decide_eq_decide]
  rw [two_succ hw] at hx
  have hp : 0 < 2 ^ (w - 1) := Nat.two_pow_pos _
  generalize 2 ^ (w - 1) = m at hx hp
  by_cases h : m ≤ x
  · have e : x / m = 1 := by
      rw [Nat.div_eq_iff hp]
      omega
    simp [e, h]
  · rw [Nat.div_eq_of_lt (by omega)]
    simp
    omega
theorem signed_nat {x w : Nat} (hx : x < 2 ^ w) (hw : 1 ≤ w) : m_signed (x : Int) (w : Int) = FwOps.signed w x := by
  unfold m_signed FwOps.signed
  rw [bit_is (i := w - 1) (by omega), top_bit hx hw, Int.one_mul, Int.toNat_natCast]
  simp only [decide_eq_true_eq]
  by_cases h : x < 2 ^ (w - 1)
  · rw [if_neg (by omega), if_pos h]
  · rw [if_pos (by omega), if_neg h]
theorem fits_nat {z : Int} {w : Nat} (hw : 1 ≤ w) : m_fits_signed z (w : Int) = FwOps.inSigned w z := by
  unfold m_fits_signed FwOps.inSigned
  dsimp only
  rw [Int.one_mul, (by omega : ((w : Int) - 1).toNat = w - 1)]
theorem wrap_nat (w : Nat) (z : Int) : ((FwOps.wrap w z : Nat) : Int) = z % 2 ^ w := by
  unfold FwOps.wrap
  exact Int.toNat_of_nonneg (Int.emod_nonneg z (by have := pw_pos w; omega))
theorem wrap_lt (w : Nat) (z : Int) : FwOps.wrap w z < 2 ^ w := by
  have h := Int.emod_lt_of_pos z (pw_pos w)
  have h2 := wrap_nat w z
  have h3 := pw_cast w
  omega
/-- what is answered -/
def res (f : Nat) : FwOps.Gives → List Int
  | .ok (lo, hi, l) => [0, (lo : Int), (hi : Int), ((FwOps.giving f l : Nat) : Int)]
  | .error e => [e]
theorem res_gives (f lo : Nat) (l : List FwOps.Given) : res f (FwOps.gives lo l) = [0, (lo : Int), 0, ((FwOps.giving f l : Nat) : Int)] := rfl
end My

/-! ### Sums and differences -/
namespace My
open PySem PyProof.Rows
theorem total_nat (w a b k : Nat) : m_total (w : Int) (a : Int) (b : Int) (k : Int) = ((FwOps.sum w a b k : Nat) : Int) := by
  unfold m_total FwOps.sum
  rw [← and_great_nat]
  norm_cast
theorem diff_nat (w a b k : Nat) : m_difference (w : Int) (a : Int) (b : Int) (k : Int) = ((FwOps.less w a b k : Nat) : Int) := by
  unfold m_difference FwOps.less
  rw [and_great, wrap_nat]
theorem dne (x y : Int) : (!decide (x = y)) = decide (x ≠ y) := by
  by_cases h : x = y <;> simp [h]
theorem totalf_nat {w a b k f : Nat} (hw : 1 ≤ w) (ha : a < 2 ^ w) (hb : b < 2 ^ w) : m_total_flags (w : Int) (a : Int) (b : Int) (k : Int) (f : Int) = ((FwOps.giving f (FwOps.sumFlags w a b k) : Nat) : Int) := by
  unfold m_total_flags FwOps.sumFlags
  dsimp only
  have hs : FwOps.sum w a b k < 2 ^ w := Nat.mod_lt _ (Nat.two_pow_pos w)
  rw [total_nat, show_nat hw, signed_nat ha hw, signed_nat hb hw, signed_nat hs hw, dne, great]
  have e1 : decide ((2 : Int) ^ w - 1 < (a : Int) + (b : Int) + (k : Int)) = decide (2 ^ w ≤ a + b + k) := by
    have := pw_cast w
    rw [decide_eq_decide]
    omega
  have e2 : decide ((16 : Int) ≤ (a : Int) % 16 + (b : Int) % 16 + (k : Int)) = decide (16 ≤ a % 16 + b % 16 + k) := by
    rw [decide_eq_decide]
    omega
  rw [e1, e2, put_nat (i := 0) (by decide), put_nat (i := 4) (by decide), put_nat (i := 11) (by decide), give_app]
  rfl
theorem difff_nat {w a b k f : Nat} (hw : 1 ≤ w) (ha : a < 2 ^ w) (hb : b < 2 ^ w) : m_difference_flags (w : Int) (a : Int) (b : Int) (k : Int) (f : Int) = ((FwOps.giving f (FwOps.lessFlags w a b k) : Nat) : Int) := by
  unfold m_difference_flags FwOps.lessFlags
  dsimp only
  have hs : FwOps.less w a b k < 2 ^ w := wrap_lt _ _
  rw [diff_nat, show_nat hw, signed_nat ha hw, signed_nat hb hw, signed_nat hs hw, dne]
  have e1 : decide ((a : Int) < (b : Int) + (k : Int)) = decide (a < b + k) := by
    rw [decide_eq_decide]
    omega
  have e2 : decide ((a : Int) % 16 < (b : Int) % 16 + (k : Int)) = decide (a % 16 < b % 16 + k) := by
    rw [decide_eq_decide]
    omega
  rw [e1, e2, put_nat (i := 0) (by decide), put_nat (i := 4) (by decide), put_nat (i := 11) (by decide), give_app]
  rfl
def kN (f : Nat) : Nat := if FwOps.bitAt f 0 = true then 1 else 0
theorem carry_nat (f : Nat) : m_carry_of (f : Int) = ((kN f : Nat) : Int) := by
  rw [carry_val]
  unfold kN
  split <;> rfl
/-! bits -/
theorem bt (x i : Nat) : FwOps.bitAt x i = x.testBit i := by
  unfold FwOps.bitAt
  rw [Nat.testBit_eq_decide_div_mod_eq]
theorem bit_ext {x y : Nat} (h : ∀ j, FwOps.bitAt x j = FwOps.bitAt y j) : x = y := Nat.eq_of_testBit_eq fun j => by
  rw [← bt, ← bt]
  exact h j
theorem set_or {f i : Nat} (h : f.testBit i = false) : f + 2 ^ i = f ||| 2 ^ i := by
  have e : f &&& 2 ^ i = 0 := Nat.eq_of_testBit_eq fun t => by
    rw [Nat.testBit_and, Nat.testBit_two_pow, Nat.zero_testBit]
    by_cases q : i = t
    · subst q
      rw [h]
      rfl
    · simp [q]
  have z := nat_or_add_and f (2 ^ i)
  omega
theorem clr_xor {f i : Nat} (h : f.testBit i = true) : f - 2 ^ i = f ^^^ 2 ^ i := by
  have e1 : (f ^^^ 2 ^ i) ||| 2 ^ i = f := Nat.eq_of_testBit_eq fun t => by
    rw [Nat.testBit_or, Nat.testBit_xor, Nat.testBit_two_pow]
    by_cases q : i = t
    · subst q
      rw [h]
      simp
    · simp [q]
  have e2 : (f ^^^ 2 ^ i) &&& 2 ^ i = 0 := Nat.eq_of_testBit_eq fun t => by
    rw [Nat.testBit_and, Nat.testBit_xor, Nat.testBit_two_pow, Nat.zero_testBit]
    by_cases q : i = t
    · subst q
      rw [h]
      simp
    · simp [q]
  have z := nat_or_add_and (f ^^^ 2 ^ i) (2 ^ i)
  omega
theorem bit_put {f i j : Nat} {h : Bool} : FwOps.bitAt (FwOps.put f (i, h)) j = if j = i then h else FwOps.bitAt f j := by
  unfold FwOps.put
  dsimp only
  rw [bt f i, bt f j]
  by_cases q : f.testBit i = h
  · rw [if_pos q, bt]
    by_cases ji : j = i
    · subst ji
      rw [if_pos rfl]
      exact q
    · rw [if_neg ji]
  · rw [if_neg q]
    cases h with
    | true =>
      have q2 : f.testBit i = false := by simpa using q
      rw [if_pos rfl, bt, set_or q2, Nat.testBit_or, Nat.testBit_two_pow]
      by_cases ji : j = i
      · simp [ji]
      · have ij : ¬ i = j := fun z => ji z.symm
        simp [ji, ij]
    | false =>
      have q2 : f.testBit i = true := by simpa using q
      rw [if_neg Bool.false_ne_true, bt, clr_xor q2, Nat.testBit_xor, Nat.testBit_two_pow]
      by_cases ji : j = i
      · subst ji
        simp [q2]
      · have ij : ¬ i = j := fun z => ji z.symm
        simp [ji, ij]
/-- C put back -/
theorem back {f : Nat} {z s p c h o : Bool} : FwOps.put (FwOps.giving f ([(6, z), (7, s), (2, p)] ++ [(0, c), (4, h), (11, o)])) (0, FwOps.bitAt f 0) = FwOps.giving f ([(6, z), (7, s), (2, p)] ++ [(4, h), (11, o)]) := by
  refine bit_ext fun j => ?_
  simp only [FwOps.giving, List.cons_append, List.nil_append, List.foldl_cons, List.foldl_nil, bit_put]
  by_cases e : j = 0
  · subst e
    simp
  · simp [e]
theorem wcarry_nat (g f : Nat) : m_with_carry_of (g : Int) (f : Int) = ((FwOps.put g (0, FwOps.bitAt f 0) : Nat) : Int) := by
  unfold m_with_carry_of
  have e : decide (m_carry_of (f : Int) = 1) = FwOps.bitAt f 0 := by
    rw [carry_val]
    cases FwOps.bitAt f 0 <;> rfl
  rw [e, put_nat (i := 0) (by decide)]
/-! the operations -/
section
variable {w a b c f : Nat}
theorem r_add (hw : 1 ≤ w) (ha : a < 2 ^ w) (hb : b < 2 ^ w) : m_op_add w a b c f = res f (FwOps.gives (FwOps.sum w a b 0) (FwOps.sumFlags w a b 0)) := by
  have e := total_nat w a b 0
  have e2 := totalf_nat (k := 0) (f := f) hw ha hb
  unfold m_op_add m_answer
  rw [res_gives, ← e, ← e2]
  rfl
theorem r_adc (hw : 1 ≤ w) (ha : a < 2 ^ w) (hb : b < 2 ^ w) : m_op_adc w a b c f = res f (FwOps.gives (FwOps.sum w a b (kN f)) (FwOps.sumFlags w a b (kN f))) := by
  unfold m_op_adc m_answer
  dsimp only
  rw [res_gives, carry_nat, total_nat, totalf_nat hw ha hb]
theorem r_sub (hw : 1 ≤ w) (ha : a < 2 ^ w) (hb : b < 2 ^ w) : m_op_sub w a b c f = res f (FwOps.gives (FwOps.less w a b 0) (FwOps.lessFlags w a b 0)) := by
  have e := diff_nat w a b 0
  have e2 := difff_nat (k := 0) (f := f) hw ha hb
  unfold m_op_sub m_answer
  rw [res_gives, ← e, ← e2]
  rfl
theorem r_sbb (hw : 1 ≤ w) (ha : a < 2 ^ w) (hb : b < 2 ^ w) : m_op_sbb w a b c f = res f (FwOps.gives (FwOps.less w a b (kN f)) (FwOps.lessFlags w a b (kN f))) := by
  unfold m_op_sbb m_answer
  dsimp only
  rw [res_gives, carry_nat, diff_nat, difff_nat hw ha hb]
theorem r_cmp (hw : 1 ≤ w) (ha : a < 2 ^ w) (hb : b < 2 ^ w) : m_op_cmp w a b c f = res f (FwOps.gives a (FwOps.lessFlags w a b 0)) := by
  have e2 := difff_nat (k := 0) (f := f) hw ha hb
  unfold m_op_cmp m_answer
  rw [res_gives, ← e2]
  rfl
theorem r_neg (hw : 1 ≤ w) (ha : a < 2 ^ w) : m_op_neg w a b c f = res f (FwOps.gives (FwOps.less w 0 a 0) (FwOps.lessFlags w 0 a 0)) := by
  have e := diff_nat w 0 a 0
  have e2 := difff_nat (a := 0) (b := a) (k := 0) (f := f) hw (Nat.two_pow_pos w) ha
  unfold m_op_neg m_answer
  rw [res_gives, ← e, ← e2]
  rfl
theorem r_inc (hw : 1 ≤ w) (ha : a < 2 ^ w) : m_op_inc w a b c f = res f (FwOps.gives (FwOps.sum w a 1 0) (FwOps.butCarry (FwOps.sumFlags w a 1 0))) := by
  have h1 : 1 < 2 ^ w := Nat.one_lt_two_pow (by omega)
  have e := total_nat w a 1 0
  have e2 := totalf_nat (b := 1) (k := 0) (f := f) hw ha h1
  unfold m_op_inc m_answer
  dsimp only
  rw [res_gives, ← e]
  have e3 : m_with_carry_of (m_total_flags w a 1 0 f) f = ((FwOps.giving f (FwOps.butCarry (FwOps.sumFlags w a 1 0)) : Nat) : Int) := by
    refine (congrArg (fun z => m_with_carry_of z (f : Int)) e2).trans ?_
    rw [wcarry_nat]
    exact congrArg (fun n : Nat => (n : Int)) back
  rw [e3]
  rfl
theorem r_dec (hw : 1 ≤ w) (ha : a < 2 ^ w) : m_op_dec w a b c f = res f (FwOps.gives (FwOps.less w a 1 0) (FwOps.butCarry (FwOps.lessFlags w a 1 0))) := by
  have h1 : 1 < 2 ^ w := Nat.one_lt_two_pow (by omega)
  have e := diff_nat w a 1 0
  have e2 := difff_nat (b := 1) (k := 0) (f := f) hw ha h1
  unfold m_op_dec m_answer
  dsimp only
  rw [res_gives, ← e]
  have e3 : m_with_carry_of (m_difference_flags w a 1 0 f) f = ((FwOps.giving f (FwOps.butCarry (FwOps.lessFlags w a 1 0)) : Nat) : Int) := by
    refine (congrArg (fun z => m_with_carry_of z (f : Int)) e2).trans ?_
    rw [wcarry_nat]
    exact congrArg (fun n : Nat => (n : Int)) back
  rw [e3]
  rfl
theorem r_xadd (hw : 1 ≤ w) (ha : a < 2 ^ w) (hb : b < 2 ^ w) : m_op_xadd w a b c f = res f (.ok (FwOps.sum w a b 0, a, FwOps.sumFlags w a b 0)) := by
  have e := total_nat w a b 0
  have e2 := totalf_nat (k := 0) (f := f) hw ha hb
  unfold m_op_xadd m_answer res
  dsimp only
  rw [← e, ← e2]
  rfl
theorem r_cmpxchg (hw : 1 ≤ w) (ha : a < 2 ^ w) (hc : c < 2 ^ w) : m_op_cmpxchg w a b c f = res f (.ok (if c = a then b else a, a, FwOps.lessFlags w c a 0)) := by
  have e2 := difff_nat (a := c) (b := a) (k := 0) (f := f) hw hc ha
  unfold m_op_cmpxchg m_answer res
  dsimp only
  rw [← e2]
  have e3 : (if decide ((c : Int) = (a : Int)) = true then (b : Int) else (a : Int)) = ((if c = a then b else a : Nat) : Int) := by
    simp only [decide_eq_true_eq]
    by_cases q : c = a
    · rw [if_pos q, if_pos (by omega)]
    · rw [if_neg q, if_neg (by omega)]
  rw [e3]
  rfl
end
end My

/-! ### Bit by bit, single bits, places, C -/
namespace My
open PySem PyProof.Rows
theorem bits_is (f : Bool → Bool → Bool) (a b : Nat) : ∀ n : Nat, FwOps.bits n f a b < 2 ^ n ∧ ∀ j, FwOps.bitAt (FwOps.bits n f a b) j = (decide (j < n) && f (FwOps.bitAt a j) (FwOps.bitAt b j))
  | 0 => by
    refine ⟨(by decide : (0 : Nat) < 1), fun j => ?_⟩
    show FwOps.bitAt 0 j = _
    rw [bt, Nat.zero_testBit]
    simp
  | n + 1 => by
    obtain ⟨h1, h2⟩ := bits_is f a b n
    have e : FwOps.bits (n + 1) f a b = if f (FwOps.bitAt a n) (FwOps.bitAt b n) = true then FwOps.bits n f a b + 2 ^ n else FwOps.bits n f a b := by
      unfold FwOps.bits
      rw [List.range_succ, List.foldl_append]
      rfl
    have hp : 2 ^ (n + 1) = 2 * 2 ^ n := by rw [Nat.pow_succ, Nat.mul_comm]
    rw [e]
    generalize hx : FwOps.bits n f a b = x at h1 h2
    have h3 : x.testBit n = false := by
      rw [← bt, h2]
      simp
    split
    · rename_i c
      refine ⟨by omega, fun j => ?_⟩
      rw [bt, set_or h3, Nat.testBit_or, Nat.testBit_two_pow, ← bt, h2]
      by_cases q : n = j
      · subst q
        simp [c]
      · have : (decide (j < n + 1)) = decide (j < n) := by
          rw [decide_eq_decide]
          omega
        simp [q, this]
    · rename_i c
      refine ⟨by omega, fun j => ?_⟩
      rw [h2]
      by_cases q : n = j
      · subst q
        simp at c
        simp [c]
      · have : (decide (j < n + 1)) = decide (j < n) := by
          rw [decide_eq_decide]
          omega
        simp [this]
theorem bit_over {a w j : Nat} (ha : a < 2 ^ w) (h : ¬ j < w) : FwOps.bitAt a j = false := by
  rw [bt]
  exact Nat.testBit_lt_two_pow (Nat.lt_of_lt_of_le ha (Nat.pow_le_pow_right (by decide) (by omega)))
section
variable {w a b c f : Nat}
theorem bits_and (ha : a < 2 ^ w) (hb : b < 2 ^ w) : FwOps.bits w (fun x y => x && y) a b = a &&& b := bit_ext fun j => by
  rw [(bits_is _ a b w).2, bt (a &&& b), Nat.testBit_and, ← bt, ← bt]
  by_cases h : j < w
  · simp [h]
  · rw [bit_over ha h]
    simp
theorem bits_or (ha : a < 2 ^ w) (hb : b < 2 ^ w) : FwOps.bits w (fun x y => x || y) a b = a ||| b := bit_ext fun j => by
  rw [(bits_is _ a b w).2, bt (a ||| b), Nat.testBit_or, ← bt, ← bt]
  by_cases h : j < w
  · simp [h]
  · rw [bit_over ha h, bit_over hb h]
    simp
theorem bits_xor (ha : a < 2 ^ w) (hb : b < 2 ^ w) : FwOps.bits w (fun x y => x != y) a b = a ^^^ b := bit_ext fun j => by
  rw [(bits_is _ a b w).2, bt (a ^^^ b), Nat.testBit_xor, ← bt, ← bt]
  by_cases h : j < w
  · simp [h]
  · rw [bit_over ha h, bit_over hb h]
    simp
theorem and_nat (a b : Nat) : Builtin.bitAnd (a : Int) (b : Int) = ((a &&& b : Nat) : Int) := by
  rw [bitAnd_pp (by omega) (by omega), Int.toNat_natCast, Int.toNat_natCast]
theorem or_nat (a b : Nat) : Builtin.bitOr (a : Int) (b : Int) = ((a ||| b : Nat) : Int) := by
  have h := nat_or_add_and a b
  rw [bitOr_and, and_nat]
  omega
theorem xor_nat (a b : Nat) : Builtin.bitXor (a : Int) (b : Int) = ((a ^^^ b : Nat) : Int) := by
  have h := nat_or_add_and a b
  have h2 := nat_or_add_and (a ^^^ b) (a &&& b)
  have e1 : (a ^^^ b) ||| (a &&& b) = a ||| b := Nat.eq_of_testBit_eq fun t => by
    rw [Nat.testBit_or, Nat.testBit_or, Nat.testBit_xor, Nat.testBit_and]
    cases a.testBit t <;> cases b.testBit t <;> rfl
  have e2 : (a ^^^ b) &&& (a &&& b) = 0 := Nat.eq_of_testBit_eq fun t => by
    rw [Nat.testBit_and, Nat.testBit_xor, Nat.testBit_and, Nat.zero_testBit]
    cases a.testBit t <;> cases b.testBit t <;> rfl
  rw [e1, e2] at h2
  rw [bitXor_and, and_nat]
  omega
theorem logic_nat {x : Nat} (hw : 1 ≤ w) : m_bitwise_flags (w : Int) (x : Int) (f : Int) = ((FwOps.giving f (FwOps.shows w x ++ [(0, false), (11, false)]) : Nat) : Int) := by
  unfold m_bitwise_flags
  dsimp only
  rw [show_nat hw, put_nat (i := 0) (by decide), put_nat (i := 11) (by decide), give_app]
  rfl
theorem r_and (hw : 1 ≤ w) (ha : a < 2 ^ w) (hb : b < 2 ^ w) : m_op_and w a b c f = res f (FwOps.gives (FwOps.bits w (fun (x y : Bool) => x && y) a b) (FwOps.logic w (fun (x y : Bool) => x && y) a b)) := by
  unfold m_op_and m_answer FwOps.logic
  rw [bits_and ha hb, and_nat, logic_nat hw]
  rfl
theorem r_or (hw : 1 ≤ w) (ha : a < 2 ^ w) (hb : b < 2 ^ w) : m_op_or w a b c f = res f (FwOps.gives (FwOps.bits w (fun (x y : Bool) => x || y) a b) (FwOps.logic w (fun (x y : Bool) => x || y) a b)) := by
  unfold m_op_or m_answer FwOps.logic
  rw [bits_or ha hb, or_nat, logic_nat hw]
  rfl
theorem r_xor (hw : 1 ≤ w) (ha : a < 2 ^ w) (hb : b < 2 ^ w) : m_op_xor w a b c f = res f (FwOps.gives (FwOps.bits w (fun (x y : Bool) => x != y) a b) (FwOps.logic w (fun (x y : Bool) => x != y) a b)) := by
  unfold m_op_xor m_answer FwOps.logic
  rw [bits_xor ha hb, xor_nat, logic_nat hw]
  rfl
theorem r_test (hw : 1 ≤ w) (ha : a < 2 ^ w) (hb : b < 2 ^ w) : m_op_test w a b c f = res f (FwOps.gives a (FwOps.logic w (fun (x y : Bool) => x && y) a b)) := by
  unfold m_op_test m_answer FwOps.logic
  rw [bits_and ha hb, and_nat, logic_nat hw]
  rfl
theorem r_not (ha : a < 2 ^ w) : m_op_not w a b c f = res f (FwOps.gives (2 ^ w - 1 - a) []) := by
  unfold m_op_not m_answer
  rw [great, res_gives, give_nil]
  have e : (2 : Int) ^ w - 1 - (a : Int) = ((2 ^ w - 1 - a : Nat) : Int) := by
    have := pw_cast w
    omega
  rw [e]
/-! single bits -/
theorem bit_flags_nat : m_bit_flags (w : Int) (a : Int) (b : Int) (f : Int) = ((FwOps.giving f [(0, FwOps.bitAt a (b % w))] : Nat) : Int) := by
  unfold m_bit_flags
  rw [bit_is (i := b % w) (by norm_cast), put_nat (i := 0) (by decide)]
  rfl
theorem chosen_nat : m_chosen_bit (w : Int) (b : Int) = 2 ^ (b % w) := by
  unfold m_chosen_bit
  rw [Int.one_mul, show ((b : Int) % (w : Int)) = ((b % w : Nat) : Int) by norm_cast, Int.toNat_natCast]
theorem put_t {i : Nat} : Builtin.bitOr (a : Int) (2 ^ i) = ((FwOps.put a (i, true) : Nat) : Int) := put_nat (f := a) (h := true) rfl
theorem put_f {i : Nat} : Builtin.bitAnd (a : Int) (Builtin.bitNot (2 ^ i)) = ((FwOps.put a (i, false) : Nat) : Int) := put_nat (f := a) (h := false) rfl
theorem put_x {i : Nat} : Builtin.bitXor (a : Int) (2 ^ i) = ((FwOps.put a (i, !FwOps.bitAt a i) : Nat) : Int) := by
  have e1 : (a : Int) / 2 ^ i % 2 = ((a / 2 ^ i % 2 : Nat) : Int) := by norm_cast
  cases h : FwOps.bitAt a i with
  | true =>
    rw [show (!true) = false from rfl, ← put_f, bitXor_and, bitAnd_not, PySem.W.kbt_bit, e1]
    have h2 : a / 2 ^ i % 2 = 1 := of_decide_eq_true h
    rw [h2]
    simp
    omega
  | false =>
    rw [show (!false) = true from rfl, ← put_t, bitXor_and, bitOr_and, PySem.W.kbt_bit, e1]
    have h2 : ¬ a / 2 ^ i % 2 = 1 := of_decide_eq_false h
    have h3 : a / 2 ^ i % 2 = 0 := by omega
    rw [h3]
    simp
theorem r_bt : m_op_bt w a b c f = res f (FwOps.bitOp a (b % w) (FwOps.bitAt a (b % w))) := by
  unfold m_op_bt m_answer FwOps.bitOp FwOps.withBit
  rw [res_gives, bit_flags_nat, if_pos rfl]
  rfl
theorem r_bts : m_op_bts w a b c f = res f (FwOps.bitOp a (b % w) true) := by
  unfold m_op_bts m_answer FwOps.bitOp
  rw [res_gives, bit_flags_nat, chosen_nat, put_t]
  rfl
theorem r_btr : m_op_btr w a b c f = res f (FwOps.bitOp a (b % w) false) := by
  unfold m_op_btr m_answer FwOps.bitOp
  rw [res_gives, bit_flags_nat, chosen_nat, put_f]
  rfl
theorem r_btc : m_op_btc w a b c f = res f (FwOps.bitOp a (b % w) (!FwOps.bitAt a (b % w))) := by
  unfold m_op_btc m_answer FwOps.bitOp
  rw [res_gives, bit_flags_nat, chosen_nat, put_x]
  rfl
/-! the lowest and the highest 1 -/
theorem find_first {p : Nat → Bool} {t : Nat} (h0 : ∀ i, i < t → p i = false) (h1 : p t = true) : ∀ n : Nat, t < n → (List.range n).find? p = some t
  | 0, h => by omega
  | n + 1, h => by
    rw [List.range_succ, List.find?_append]
    by_cases q : t < n
    · rw [find_first h0 h1 n q]
      rfl
    · have e : t = n := by omega
      subst e
      have e2 : (List.range t).find? p = none := by
        rw [List.find?_eq_none]
        intro x hx
        rw [h0 x (List.mem_range.mp hx)]
        exact Bool.false_ne_true
      rw [e2, List.find?_cons, h1]
      rfl
theorem find_last {p : Nat → Bool} {t : Nat} (h0 : ∀ i, t < i → p i = false) (h1 : p t = true) : ∀ n : Nat, t < n → (List.range n).reverse.find? p = some t
  | 0, h => by omega
  | n + 1, h => by
    rw [List.range_succ, List.reverse_append]
    show List.find? p (n :: (List.range n).reverse) = some t
    rw [List.find?_cons]
    by_cases q : t = n
    · subst q
      rw [h1]
    · rw [h0 n (by omega)]
      exact find_last h0 h1 n (by omega)
theorem odd_part : ∀ b : Nat, 0 < b → ∃ t m, b = 2 ^ t * (2 * m + 1) := fun b => by
  induction b using Nat.strongRecOn with
  | _ b ih =>
    intro h
    by_cases o : b % 2 = 1
    · exact ⟨0, b / 2, by omega⟩
    · obtain ⟨t, m, e⟩ := ih (b / 2) (by omega) (by omega)
      refine ⟨t + 1, m, ?_⟩
      rw [Nat.pow_succ, Nat.mul_right_comm, ← e]
      omega
theorem bits_pow (t : Nat) : Builtin.Int.intBits (2 ^ t) = t + 1 := by
  have e : ((2 : Int) ^ t).natAbs = 2 ^ t := by
    rw [pw_cast]
    rfl
  have hp := pw_pos t
  unfold Builtin.Int.intBits
  rw [if_neg (by rw [beq_iff_eq]; omega), e, Nat.log2_two_pow]
theorem r_bsf (hb : b < 2 ^ w) : m_op_bsf w a b c f = res f (FwOps.gives (if b = 0 then a else FwOps.lowest w b) [(6, decide (b = 0))]) := by
  unfold m_op_bsf m_answer
  dsimp only
  simp only [decide_eq_true_eq]
  by_cases z : b = 0
  · rw [if_pos (by omega), if_pos z, res_gives, put_nat (i := 6) (by decide), decide_eq_true z]
    rfl
  · rw [if_neg (by omega), if_neg z, res_gives, put_nat (i := 6) (by decide), decide_eq_false z]
    obtain ⟨t, m, e⟩ := odd_part b (by omega)
    have e2 : (b : Int) = 2 ^ t * (2 * (m : Int) + 1) := by
      rw [e]
      norm_cast
    have e3 : Builtin.bitAnd (b : Int) (-(b : Int)) = 2 ^ t := by
      rw [e2]
      exact PySem.W.kbt_low t m
    have hlow : ∀ i, FwOps.bitAt b i = (decide (t ≤ i) && (2 * m + 1).testBit (i - t)) := fun i => by
      rw [bt, e, Nat.testBit_two_pow_mul]
    have h1 : FwOps.bitAt b t = true := by
      rw [hlow, Nat.sub_self, Nat.testBit_zero]
      simp
    have htw : t < w := by
      by_cases q : t < w
      · exact q
      · rw [bit_over hb q] at h1
        cases h1
    have e4 : FwOps.lowest w b = t := by
      unfold FwOps.lowest
      rw [find_first (p := fun i => FwOps.bitAt b i) (t := t) (fun i hi => by rw [hlow]; simp; omega) h1 w htw]
      rfl
    rw [e3, bits_pow, e4]
    have e5 : ((t + 1 : Nat) : Int) - 1 = (t : Int) := by omega
    rw [e5]
    rfl
theorem r_bsr (hb : b < 2 ^ w) : m_op_bsr w a b c f = res f (FwOps.gives (if b = 0 then a else FwOps.highest w b) [(6, decide (b = 0))]) := by
  unfold m_op_bsr m_answer
  simp only [decide_eq_true_eq]
  by_cases z : b = 0
  · rw [if_pos (by omega), if_pos z, res_gives, put_nat (i := 6) (by decide), decide_eq_true z]
    rfl
  · rw [if_neg (by omega), if_neg z, res_gives, put_nat (i := 6) (by decide), decide_eq_false z]
    have l1 : 2 ^ b.log2 ≤ b := Nat.log2_self_le z
    have l2 : b < 2 ^ (b.log2 + 1) := Nat.lt_log2_self
    have h1 : FwOps.bitAt b b.log2 = true := by
      have := top_bit (w := b.log2 + 1) l2 (by omega)
      rw [show b.log2 + 1 - 1 = b.log2 from rfl] at this
      rw [this]
      exact decide_eq_true l1
    have htw : b.log2 < w := by
      by_cases q : b.log2 < w
      · exact q
      · rw [bit_over hb q] at h1
        cases h1
    have e4 : FwOps.highest w b = b.log2 := by
      unfold FwOps.highest
      rw [find_last (p := fun i => FwOps.bitAt b i) (t := b.log2) (fun i hi => bit_over l2 (by omega)) h1 w htw]
      rfl
    have e5 : ((Builtin.Int.intBits (b : Int) : Nat) : Int) - 1 = (b.log2 : Int) := by
      unfold Builtin.Int.intBits
      rw [if_neg (by rw [beq_iff_eq]; omega)]
      show ((b.log2 + 1 : Nat) : Int) - 1 = _
      omega
    rw [e5, e4]
    rfl
theorem swap_nat (a : Nat) : ∀ n : Nat, m_swap (a : Int) n = (((List.range n).foldl (fun (x i : Nat) => x * 256 + a / 256 ^ i % 256) 0 : Nat) : Int)
  | 0 => rfl
  | n + 1 => by
    have e : m_swap (a : Int) (n + 1) = m_swap (a : Int) n * 256 + (a : Int) / 2 ^ (0 + (n : Int) * 8).toNat % 256 := by
      show m_swap (a : Int) n * 2 ^ (8 : Int).toNat + Builtin.bitAnd ((a : Int) / 2 ^ (0 + (n : Int) * 8).toNat) 255 = _
      rw [bitAnd_m8]
      rfl
    rw [e, swap_nat a n, List.range_succ, List.foldl_append, (by omega : (0 + (n : Int) * 8).toNat = 8 * n), Int.pow_mul]
    show _ = (((List.range n).foldl (fun (x i : Nat) => x * 256 + a / 256 ^ i % 256) 0 * 256 + a / 256 ^ n % 256 : Nat) : Int)
    norm_cast
theorem r_bswap : m_op_bswap w a b c f = res f (FwOps.gives (FwOps.swapped w a) []) := by
  unfold m_op_bswap m_answer FwOps.swapped
  rw [res_gives, give_nil, Int.toNat_natCast, swap_nat]
theorem r_clc : m_op_clc w a b c f = res f (FwOps.gives a [(0, false)]) := by
  unfold m_op_clc m_answer
  rw [res_gives, put_nat (i := 0) (by decide)]
  rfl
theorem r_stc : m_op_stc w a b c f = res f (FwOps.gives a [(0, true)]) := by
  unfold m_op_stc m_answer
  rw [res_gives, put_nat (i := 0) (by decide)]
  rfl
theorem r_cmc : m_op_cmc w a b c f = res f (FwOps.gives a [(0, !FwOps.bitAt f 0)]) := by
  unfold m_op_cmc m_answer
  have e : decide (m_carry_of (f : Int) = 0) = !FwOps.bitAt f 0 := by
    rw [carry_val]
    cases FwOps.bitAt f 0 <;> rfl
  rw [res_gives, e, put_nat (i := 0) (by decide)]
  rfl
end
end My

/-! ### Shifts and turns -/
namespace My
open PySem PyProof.Rows
theorem nb_ne {p q : Bool} : (!decide ((if p = true then (1 : Int) else 0) = if q = true then 1 else 0)) = (p != q) := by
  cases p <;> cases q <;> decide
theorem top_not {w x g : Nat} (hw : 1 ≤ w) : m_is_top_not_carry (w : Int) (x : Int) (g : Int) = (FwOps.bitAt x (w - 1) != FwOps.bitAt g 0) := by
  unfold m_is_top_not_carry
  rw [bit_val (i := w - 1) (by omega), carry_val, nb_ne]
theorem put_if {g i : Nat} {p h : Bool} {m : Int} (hm : m = 2 ^ i) : (if p = true then m_put (g : Int) m h else (g : Int)) = ((FwOps.giving g (FwOps.onlyIf p (i, h)) : Nat) : Int) := by
  cases p with
  | true =>
    rw [if_pos rfl, put_nat hm]
    rfl
  | false =>
    rw [if_neg Bool.false_ne_true]
    rfl
theorem only_congr {p h h' : Bool} {i : Nat} (e : p = true → h = h') : FwOps.onlyIf p (i, h) = FwOps.onlyIf p (i, h') := by
  cases p with
  | true => rw [e rfl]
  | false => rfl
theorem dn1 (n : Nat) : decide ((n : Int) = 1) = decide (n = 1) := by
  rw [decide_eq_decide]
  omega
theorem dlt (n w : Nat) : decide ((n : Int) < (w : Int)) = decide (n < w) := by
  rw [decide_eq_decide]
  omega
section
variable {w a b c f n x : Nat}
theorem turn_nat {s m : Nat} {N : Int} (hm : N % (s : Int) = (m : Int)) (hlt : m < s) (hx : x < 2 ^ s) : m_turned_left (x : Int) (s : Int) N = ((FwOps.turned s x m : Nat) : Int) := by
  unfold m_turned_left FwOps.turned
  dsimp only
  have e1 : x / 2 ^ (s - m) < 2 ^ m := by
    refine Nat.div_lt_of_lt_mul ?_
    rw [← Nat.pow_add, show s - m + m = s by omega]
    exact hx
  have e2 : x * 2 ^ m ||| x / 2 ^ (s - m) = x * 2 ^ m + x / 2 ^ (s - m) := by
    rw [Nat.mul_comm x]
    exact (Nat.two_pow_add_eq_or_of_lt e1 x).symm
  have e3 : (x : Int) * 2 ^ (N % (s : Int)).toNat = ((x * 2 ^ m : Nat) : Int) := by
    rw [hm, Int.toNat_natCast]
    norm_cast
  have e4 : (x : Int) / 2 ^ ((s : Int) - N % (s : Int)).toNat = ((x / 2 ^ (s - m) : Nat) : Int) := by
    rw [hm, (by omega : ((s : Int) - (m : Int)).toNat = s - m)]
    norm_cast
  rw [e3, e4, or_nat, e2, and_great_nat]
theorem shl_cast : (a : Int) * 2 ^ (n : Int).toNat = ((a * 2 ^ n : Nat) : Int) := by
  rw [Int.toNat_natCast]
  norm_cast
theorem shr_cast : (a : Int) / 2 ^ (n : Int).toNat = ((a / 2 ^ n : Nat) : Int) := by
  rw [Int.toNat_natCast]
  norm_cast
theorem r_shl (hw : 2 ≤ w) (hn : n ≠ 0) : m_op_shl w a b n f = res f (FwOps.shl w n a) := by
  unfold m_op_shl m_answer FwOps.shl FwOps.shifted
  dsimp only
  rw [if_neg hn, shl_cast, and_great_nat, show_nat (by omega), dlt, dn1, put_if (i := 0) (by decide), put_if (i := 11) (by decide), top_not (by omega), res_gives, give_app, give_app]
  have e1 : (n : Int) < (w : Int) → decide (m_bit (a : Int) ((w : Int) - (n : Int)) = 1) = FwOps.bitAt a (w - n) := fun h => bit_is (by omega)
  have e2 : FwOps.onlyIf (decide (n < w)) (0, decide (m_bit (a : Int) ((w : Int) - (n : Int)) = 1)) = FwOps.onlyIf (decide (n < w)) (FwOps.CARRY, FwOps.bitAt a (w - n)) := only_congr fun h => e1 (by have := of_decide_eq_true h; omega)
  rw [e2]
  rw [only_congr (p := decide (n = 1)) (i := 11) (h' := FwOps.bitAt (a * 2 ^ n % 2 ^ w) (w - 1) != FwOps.bitAt a (w - 1))]
  · rfl
  · intro h
    have h1 : n = 1 := of_decide_eq_true h
    subst h1
    have h2 : decide (1 < w) = true := decide_eq_true (by omega)
    rw [h2]
    show (_ != FwOps.bitAt (FwOps.put _ (0, _)) 0) = _
    rw [bit_put, if_pos rfl]
theorem r_shr (hw : 2 ≤ w) (hn : n ≠ 0) : m_op_shr w a b n f = res f (FwOps.shr w n a) := by
  unfold m_op_shr m_answer FwOps.shr FwOps.shifted
  dsimp only
  rw [if_neg hn, shr_cast, show_nat (by omega), dlt, dn1, put_if (i := 0) (by decide), put_if (i := 11) (by decide), bit_is (i := n - 1) (by omega), bit_is (i := w - 1) (by omega), res_gives, give_app, give_app]
  rfl
theorem r_sar (hw : 2 ≤ w) (ha : a < 2 ^ w) (hn : n ≠ 0) : m_op_sar w a b n f = res f (FwOps.sar w n a) := by
  unfold m_op_sar m_answer FwOps.sar FwOps.shifted
  dsimp only
  rw [if_neg hn, signed_nat ha (by omega), Int.toNat_natCast, and_great, ← wrap_nat, show_nat (by omega), dn1, put_nat (i := 0) (by decide), put_if (i := 11) (by decide), bit_eq, (by omega : ((n : Int) - 1).toNat = n - 1), res_gives, give_app]
  rfl
theorem r_rol (hw : 2 ≤ w) (ha : a < 2 ^ w) (hn : n ≠ 0) : m_op_rol w a b n f = res f (FwOps.rol w n a) := by
  unfold m_op_rol m_answer FwOps.rol FwOps.turnedBy
  dsimp only
  rw [if_neg hn, turn_nat (m := n % w) (by norm_cast) (Nat.mod_lt _ (by omega)) ha, dn1, put_nat (i := 0) (by decide), put_if (i := 11) (by decide), bit_is (i := 0) (j := 0) rfl, top_not (by omega), res_gives, give_one, bit_put, if_pos rfl]
  rfl
theorem sub_mod {m : Nat} (hm : 1 ≤ m) : ((m : Int) - (n : Int) % (m : Int)) % (m : Int) = (((m - n % m) % m : Nat) : Int) := by
  have h := Nat.mod_lt n (show 0 < m by omega)
  rw [show ((n : Int) % (m : Int)) = ((n % m : Nat) : Int) by norm_cast, show ((m : Int) - ((n % m : Nat) : Int)) = ((m - n % m : Nat) : Int) by omega]
  norm_cast
theorem r_ror (hw : 2 ≤ w) (ha : a < 2 ^ w) (hn : n ≠ 0) : m_op_ror w a b n f = res f (FwOps.ror w n a) := by
  unfold m_op_ror m_answer m_turned_right FwOps.ror FwOps.turnedBy
  dsimp only
  rw [if_neg hn, turn_nat (m := (w - n % w) % w) (sub_mod (by omega)) (Nat.mod_lt _ (by omega)) ha, dn1, put_nat (i := 0) (by decide), put_if (i := 11) (by decide), bit_is (i := w - 1) (by omega), bit_val (i := w - 1) (by omega), bit_val (i := w - 2) (by omega), nb_ne, res_gives, give_one]
  rfl
theorem above_nat : m_with_carry_above (w : Int) (a : Int) (f : Int) = ((a + kN f * 2 ^ w : Nat) : Int) := by
  unfold m_with_carry_above
  rw [carry_nat, shl_cast]
  omega
theorem above_lt (ha : a < 2 ^ w) : a + kN f * 2 ^ w < 2 ^ (w + 1) := by
  rw [Nat.pow_succ]
  unfold kN
  split <;> omega
theorem succ_cast : (w : Int) + 1 = ((w + 1 : Nat) : Int) := by omega
theorem bit_mod (hw : 1 ≤ w) : FwOps.bitAt (x % 2 ^ w) (w - 1) = FwOps.bitAt x (w - 1) := by
  rw [bt, bt, Nat.testBit_mod_two_pow]
  simp
  omega
theorem r_rcl (hw : 2 ≤ w) (ha : a < 2 ^ w) (hn : n ≠ 0) : m_op_rcl w a b n f = res f (FwOps.rcl w n a (kN f)) := by
  unfold m_op_rcl m_answer FwOps.rcl FwOps.turnedBy
  dsimp only
  rw [if_neg hn, above_nat, succ_cast, turn_nat (m := n % (w + 1)) (by norm_cast) (Nat.mod_lt _ (by omega)) (above_lt ha), dn1, and_great_nat, put_nat (i := 0) (by decide), put_if (i := 11) (by decide), bit_is (i := w) rfl, top_not (by omega), res_gives, give_one, bit_put, if_pos rfl, bit_mod (by omega)]
  rfl
theorem kN_is : decide (kN f = 1) = FwOps.bitAt f 0 := by
  unfold kN
  cases FwOps.bitAt f 0 <;> rfl
theorem r_rcr (hw : 2 ≤ w) (ha : a < 2 ^ w) (hn : n ≠ 0) : m_op_rcr w a b n f = res f (FwOps.rcr w n a (kN f)) := by
  unfold m_op_rcr m_answer m_turned_right FwOps.rcr FwOps.turnedBy
  dsimp only
  rw [if_neg hn, above_nat, succ_cast, turn_nat (m := (w + 1 - n % (w + 1)) % (w + 1)) (sub_mod (by omega)) (Nat.mod_lt _ (by omega)) (above_lt ha), dn1, and_great_nat, put_nat (i := 0) (by decide), put_if (i := 11) (by decide), bit_is (i := w) rfl, top_not (by omega), res_gives, give_one, kN_is]
  rfl
theorem r_double {lo : Nat} {cy : Int} {q : Bool} (hw : 2 ≤ w) (hn : n ≠ 0) (hc : decide (cy = 1) = q) : m_double_answer w a lo cy n f = res f (FwOps.shifted w n a lo ((FwOps.CARRY, q) :: FwOps.onlyIf (decide (n = 1)) (FwOps.OVER, FwOps.bitAt lo (w - 1) != FwOps.bitAt a (w - 1)))) := by
  unfold m_double_answer m_answer FwOps.shifted
  dsimp only
  rw [if_neg hn, show_nat (by omega), hc, dn1, put_nat (i := 0) (by decide), put_if (i := 11) (by decide), bit_val (i := w - 1) (by omega), bit_val (i := w - 1) (by omega), nb_ne, res_gives, give_app]
  rfl
theorem r_shld (hw : 2 ≤ w) (hn : n ≠ 0) : m_op_shld w a b n f = res f (FwOps.shld w n a b) := by
  unfold m_op_shld FwOps.shld
  dsimp only
  rw [dlt]
  simp only [decide_eq_true_eq]
  by_cases q : w < n
  · rw [if_pos q, if_pos q]
    rfl
  · rw [if_neg q, if_neg q, shl_cast]
    have e : (b : Int) / 2 ^ ((w : Int) - (n : Int)).toNat = ((b / 2 ^ (w - n) : Nat) : Int) := by
      rw [(by omega : ((w : Int) - (n : Int)).toNat = w - n)]
      norm_cast
    rw [e, show ((a * 2 ^ n : Nat) : Int) + ((b / 2 ^ (w - n) : Nat) : Int) = ((a * 2 ^ n + b / 2 ^ (w - n) : Nat) : Int) by omega, and_great_nat]
    exact r_double hw hn (bit_is (by omega))
theorem r_shrd (hw : 2 ≤ w) (hn : n ≠ 0) : m_op_shrd w a b n f = res f (FwOps.shrd w n a b) := by
  unfold m_op_shrd FwOps.shrd
  dsimp only
  rw [dlt]
  simp only [decide_eq_true_eq]
  by_cases q : w < n
  · rw [if_pos q, if_pos q]
    rfl
  · rw [if_neg q, if_neg q, shl_cast, show ((b * 2 ^ w : Nat) : Int) + (a : Int) = ((b * 2 ^ w + a : Nat) : Int) by omega, shr_cast, and_great_nat]
    exact r_double hw hn (bit_is (by omega))
theorem places_b {op : Nat} (h : op < 20) : m_places_to_go (op : Int) w b c = ((FwOps.count w b : Nat) : Int) := by
  unfold m_places_to_go FwOps.count
  dsimp only
  simp only [decide_eq_true_eq]
  have e1 : (if (20 : Int) ≤ (op : Int) then (c : Int) else (b : Int)) = (b : Int) := if_neg (by omega)
  rw [e1]
  by_cases q : w = 64
  · rw [if_pos (by omega), if_pos q]
    norm_cast
  · rw [if_neg (by omega), if_neg q]
    norm_cast
theorem places_c {op : Nat} (h : 20 ≤ op) : m_places_to_go (op : Int) w b c = ((FwOps.count w c : Nat) : Int) := by
  unfold m_places_to_go FwOps.count
  dsimp only
  simp only [decide_eq_true_eq]
  have e1 : (if (20 : Int) ≤ (op : Int) then (c : Int) else (b : Int)) = (c : Int) := if_pos (by omega)
  rw [e1]
  by_cases q : w = 64
  · rw [if_pos (by omega), if_pos q]
    norm_cast
  · rw [if_neg (by omega), if_neg q]
    norm_cast
end
end My

/-! ### Products, quotients, decimals -/
namespace My
open PySem PyProof.Rows
section
variable {w a b c f : Nat}
theorem halves (z : Int) (w : Nat) : ((FwOps.wrap (2 * w) z % 2 ^ w : Nat) : Int) = z % 2 ^ w ∧ ((FwOps.wrap (2 * w) z / 2 ^ w : Nat) : Int) = z / 2 ^ w % 2 ^ w := by
  have hp := pw_pos w
  have e0 : (2 : Int) ^ (2 * w) = 2 ^ w * 2 ^ w := by
    rw [show 2 * w = w + w by omega, Int.pow_add]
  have e1 := wrap_nat (2 * w) z
  rw [e0] at e1
  have c1 : ((FwOps.wrap (2 * w) z % 2 ^ w : Nat) : Int) = ((FwOps.wrap (2 * w) z : Nat) : Int) % 2 ^ w := by norm_cast
  have c2 : ((FwOps.wrap (2 * w) z / 2 ^ w : Nat) : Int) = ((FwOps.wrap (2 * w) z : Nat) : Int) / 2 ^ w := by norm_cast
  rw [c1, c2, e1]
  generalize (2 : Int) ^ w = m at hp
  have d1 := Int.mul_ediv_add_emod z m
  have d2 := Int.mul_ediv_add_emod (z / m) m
  have r1 := Int.emod_nonneg z (show m ≠ 0 by omega)
  have r2 := Int.emod_lt_of_pos z hp
  have s1 := Int.emod_nonneg (z / m) (show m ≠ 0 by omega)
  have s2 := Int.emod_lt_of_pos (z / m) hp
  have key : z % (m * m) = m * (z / m % m) + z % m := by
    have u : 0 ≤ m * (z / m % m) + z % m ∧ m * (z / m % m) + z % m < m * m := by
      refine ⟨Int.add_nonneg (Int.mul_nonneg (by omega) s1) r1, ?_⟩
      have t1 : m * (z / m % m) ≤ m * (m - 1) := Int.mul_le_mul_of_nonneg_left (by omega) (by omega)
      have t2 : m * (m - 1) = m * m - m := by rw [Int.mul_sub, Int.mul_one]
      omega
    have e : z = m * (z / m % m) + z % m + m * m * (z / m / m) := by
      have e2 : m * (m * (z / m / m) + z / m % m) = m * (z / m) := by rw [d2]
      rw [Int.mul_add, ← Int.mul_assoc] at e2
      omega
    have h := ((Int.ediv_emod_unique (a := z) (b := m * m) (r := m * (z / m % m) + z % m) (q := z / m / m) (Int.mul_pos hp hp)).mpr ⟨e.symm, u.1, u.2⟩).2
    exact h
  rw [key]
  constructor
  · rw [Int.add_comm, Int.add_mul_emod_self_left, Int.emod_emod]
  · rw [Int.add_comm, Int.add_mul_ediv_left _ _ (by omega), Int.ediv_eq_zero_of_lt r1 r2, Int.zero_add]
theorem r_mul (ha : a < 2 ^ w) (hb : b < 2 ^ w) : m_op_mul w a b c f = res f (FwOps.mul w a b) := by
  unfold m_op_mul m_product_answer m_answer FwOps.mul res
  dsimp only
  have e0 : (a : Int) * (b : Int) = ((a * b : Nat) : Int) := by norm_cast
  have e1 : decide (m_greatest (w : Int) < ((a * b : Nat) : Int)) = decide (2 ^ w ≤ a * b) := by
    have := pw_cast w
    rw [great, decide_eq_decide]
    omega
  have e2 : a * b / 2 ^ w % 2 ^ w = a * b / 2 ^ w := by
    refine Nat.mod_eq_of_lt (Nat.div_lt_of_lt_mul ?_)
    exact Nat.mul_lt_mul'' ha hb
  rw [e0, e1, and_great_nat, shr_cast, and_great_nat, e2, put_nat (i := 0) (by decide), put_nat (i := 11) (by decide)]
  rfl
theorem r_imul (hw : 1 ≤ w) (ha : a < 2 ^ w) (hb : b < 2 ^ w) : m_op_imul w a b c f = res f (FwOps.imul w a b) := by
  unfold m_op_imul m_product_answer m_answer FwOps.imul res
  dsimp only
  rw [signed_nat ha hw, signed_nat hb hw, fits_nat hw, Int.toNat_natCast, and_great, and_great, put_nat (i := 0) (by decide), put_nat (i := 11) (by decide), (halves _ w).1, (halves _ w).2]
  rfl
theorem r_div (ha : a < 2 ^ w) (hb : b < 2 ^ w) : m_op_div w a b c f = res f (FwOps.div w a b c) := by
  unfold m_op_div m_answer FwOps.div
  dsimp only
  simp only [decide_eq_true_eq]
  by_cases q : b ≤ c
  · rw [if_pos (by omega), if_pos q]
    rfl
  · rw [if_neg (by omega), if_neg q, shl_cast, show ((c * 2 ^ w : Nat) : Int) + (a : Int) = ((c * 2 ^ w + a : Nat) : Int) by omega]
    show _ = [0, (((c * 2 ^ w + a) / b : Nat) : Int), (((c * 2 ^ w + a) % b : Nat) : Int), (f : Int)]
    norm_cast
theorem cut_is (n d : Int) : m_cut_quotient n d = n.tdiv d := by
  unfold m_cut_quotient
  dsimp only
  have h : ∀ x y : Int, 0 ≤ x → 0 ≤ y → x / y = x.tdiv y := fun x y hx _ => (Int.tdiv_eq_ediv_of_nonneg hx).symm
  by_cases hn : n < 0
  · by_cases hd : d < 0
    · rw [if_pos hn, if_pos hd, decide_eq_true hn, decide_eq_true hd, h _ _ (by omega) (by omega), Int.tdiv_neg, Int.neg_tdiv]
      simp
    · rw [if_pos hn, if_neg hd, decide_eq_true hn, decide_eq_false hd, h _ _ (by omega) (by omega), Int.neg_tdiv, Int.neg_neg]
      rfl
  · by_cases hd : d < 0
    · rw [if_neg hn, if_pos hd, decide_eq_false hn, decide_eq_true hd, h _ _ (by omega) (by omega), Int.tdiv_neg, Int.neg_neg]
      rfl
    · rw [if_neg hn, if_neg hd, decide_eq_false hn, decide_eq_false hd, h _ _ (by omega) (by omega)]
      rfl
theorem signed_zero (hb : b < 2 ^ w) : FwOps.signed w b = 0 ↔ b = 0 := by
  have := pw_cast w
  have hp : 0 < 2 ^ (w - 1) := Nat.two_pow_pos _
  unfold FwOps.signed
  split <;> omega
theorem r_idiv (hw : 1 ≤ w) (ha : a < 2 ^ w) (hb : b < 2 ^ w) (hc : c < 2 ^ w) : m_op_idiv w a b c f = res f (FwOps.idiv w a b c) := by
  have hN : c * 2 ^ w + a < 2 ^ (2 * w) := by
    rw [show 2 * w = w + w by omega, Nat.pow_add]
    have : (c + 1) * 2 ^ w ≤ 2 ^ w * 2 ^ w := Nat.mul_le_mul_right _ hc
    rw [Nat.add_mul, Nat.one_mul] at this
    omega
  unfold m_op_idiv m_answer FwOps.idiv
  dsimp only
  rw [shl_cast, show ((c * 2 ^ w : Nat) : Int) + (a : Int) = ((c * 2 ^ w + a : Nat) : Int) by omega, show (2 : Int) * (w : Int) = ((2 * w : Nat) : Int) by omega, signed_nat hN (by omega), signed_nat hb hw, cut_is, fits_nat hw, and_great, and_great]
  simp only [decide_eq_true_eq]
  by_cases q : b = 0
  · rw [if_pos (by omega), if_pos ((signed_zero hb).mpr q)]
    rfl
  · have q2 : ¬ FwOps.signed w b = 0 := fun z => q ((signed_zero hb).mp z)
    rw [if_neg (by omega), if_neg q2]
    generalize hx : FwOps.signed (2 * w) (c * 2 ^ w + a) = n
    generalize FwOps.signed w b = d
    cases FwOps.inSigned w (n.tdiv d) with
    | false => rfl
    | true =>
      have e : n - n.tdiv d * d = n.tmod d := by
        rw [Int.tmod_def, Int.mul_comm]
      rw [e, ← wrap_nat, ← wrap_nat]
      rfl
/-! decimals -/
theorem low_off : m_is_low_digit_off (a : Int) (f : Int) = (decide (9 < a % 16) || FwOps.bitAt f 4) := by
  unfold m_is_low_digit_off
  have e1 : decide ((9 : Int) < (a : Int) % 16) = decide (9 < a % 16) := by
    rw [decide_eq_decide]
    omega
  have e2 : (!decide (Builtin.bitAnd (f : Int) 16 = 0)) = FwOps.bitAt f 4 := by
    have e3 : Builtin.bitAnd (f : Int) 16 = (f : Int) / 2 ^ 4 % 2 * 2 ^ 4 := PySem.W.kbt_bit (f : Int) 4
    rw [e3]
    unfold FwOps.bitAt
    by_cases q : f / 2 ^ 4 % 2 = 1
    · rw [decide_eq_true q, decide_eq_false (by omega)]
      rfl
    · rw [decide_eq_false q, decide_eq_true (by omega)]
      rfl
  rw [e1, e2]
theorem high_off : m_is_high_digit_off (a : Int) (f : Int) = (decide (153 < a) || FwOps.bitAt f 0) := by
  unfold m_is_high_digit_off
  have e1 : decide ((153 : Int) < (a : Int)) = decide (153 < a) := by
    rw [decide_eq_decide]
    omega
  have e2 : decide (m_carry_of (f : Int) = 1) = FwOps.bitAt f 0 := by
    rw [carry_val]
    cases FwOps.bitAt f 0 <;> rfl
  rw [e1, e2]
theorem half_carry {g : Nat} {p q : Bool} : m_put_half_and_carry (g : Int) p q = ((FwOps.giving g [(4, p), (0, q)] : Nat) : Int) := by
  unfold m_put_half_and_carry
  rw [put_nat (i := 4) (by decide), put_nat (i := 0) (by decide)]
  rfl
theorem show8 {x : Nat} : m_show (f : Int) (x : Int) 8 = ((FwOps.giving f (FwOps.shows 8 x) : Nat) : Int) := show_nat (w := 8) (by decide)
theorem r_daa : m_op_daa w a b c f = res f (FwOps.daa a (FwOps.bitAt f 0) (FwOps.bitAt f 4)) := by
  unfold m_op_daa m_answer FwOps.daa m_amount_off
  dsimp only
  rw [low_off, high_off]
  generalize (decide (9 < a % 16) || FwOps.bitAt f 4) = p
  generalize (decide (153 < a) || FwOps.bitAt f 0) = q
  have e : ((a : Int) + ((if p = true then 6 else 0) + if q = true then 96 else 0)) % 256 = (((a + (if p = true then 6 else 0) + (if q = true then 96 else 0)) % 256 : Nat) : Int) := by
    cases p <;> cases q <;> simp <;> omega
  rw [e, show8, half_carry, res_gives, give_app]
  rfl
theorem r_das : m_op_das w a b c f = res f (FwOps.das a (FwOps.bitAt f 0) (FwOps.bitAt f 4)) := by
  unfold m_op_das m_answer FwOps.das m_amount_off
  dsimp only
  have e6 : decide ((a : Int) < 6) = decide (a < 6) := by
    rw [decide_eq_decide]
    omega
  rw [low_off, high_off, e6]
  generalize (decide (9 < a % 16) || FwOps.bitAt f 4) = p
  generalize (decide (153 < a) || FwOps.bitAt f 0) = q
  have e : ((a : Int) - ((if p = true then 6 else 0) + if q = true then 96 else 0)) % 256 = (((a + 512 - (if p = true then 6 else 0) - (if q = true then 96 else 0)) % 256 : Nat) : Int) := by
    cases p <;> cases q <;> simp <;> omega
  rw [e, show8, half_carry, res_gives, give_app]
  rfl
theorem one_digit {x : Nat} {z : Int} (e : z = (x : Int)) : z / 256 * 256 + z % 16 = ((FwOps.oneDigit x : Nat) : Int) := by
  subst e
  unfold FwOps.oneDigit
  omega
theorem r_aaa (ha : a < 65536) : m_op_aaa w a b c f = res f (FwOps.aaa a (FwOps.bitAt f 4)) := by
  unfold m_op_aaa m_one_digit_answer m_answer FwOps.aaa
  dsimp only
  rw [low_off]
  generalize (decide (9 < a % 16) || FwOps.bitAt f 4) = p
  rw [one_digit (x := (a + (if p = true then 262 else 0)) % 65536) (by cases p <;> simp <;> omega), half_carry, res_gives]
  rfl
theorem r_aas (ha : a < 65536) : m_op_aas w a b c f = res f (FwOps.aas a (FwOps.bitAt f 4)) := by
  unfold m_op_aas m_one_digit_answer m_answer FwOps.aas
  dsimp only
  rw [low_off]
  generalize (decide (9 < a % 16) || FwOps.bitAt f 4) = p
  rw [one_digit (x := (a + 65536 - (if p = true then 262 else 0)) % 65536) (by cases p <;> simp <;> omega), half_carry, res_gives]
  rfl
theorem r_aam : m_op_aam w a b c f = res f (FwOps.aam a b) := by
  unfold m_op_aam m_answer FwOps.aam
  dsimp only
  simp only [decide_eq_true_eq]
  by_cases q : b % 256 = 0
  · rw [if_pos (by omega), if_pos q]
    rfl
  · rw [if_neg (by omega), if_neg q]
    have e1 : (a : Int) % 256 % ((b : Int) % 256) = ((a % 256 % (b % 256) : Nat) : Int) := by norm_cast
    have e2 : (a : Int) % 256 / ((b : Int) % 256) * 256 + (a : Int) % 256 % ((b : Int) % 256) = ((a % 256 / (b % 256) * 256 + a % 256 % (b % 256) : Nat) : Int) := by norm_cast
    rw [e2, e1, show8, res_gives]
theorem r_aad : m_op_aad w a b c f = res f (FwOps.aad a b) := by
  unfold m_op_aad m_answer FwOps.aad
  dsimp only
  have e : ((a : Int) % 256 + (a : Int) / 256 * ((b : Int) % 256)) % 256 = (((a % 256 + a / 256 * (b % 256)) % 256 : Nat) : Int) := by norm_cast
  rw [e, show8, res_gives]
end
end My

/-! ### All of it: the mirror is the specification -/
namespace My
open PySem PyProof.Rows
section
variable {w a b c f : Nat}
theorem step_shift {op : Nat} {n : Nat} {g : FwOps.Gives} (hp : m_places_to_go (op : Int) w b c = (n : Int)) (h0 : n = 0 → g = FwOps.gives a []) (h1 : n ≠ 0 → m_shift_step (op : Int) w a b n f = res f g) : m_run_shift (op : Int) w a b c f = res f g := by
  unfold m_run_shift
  rw [hp]
  simp only [decide_eq_true_eq]
  by_cases q : n = 0
  · rw [if_pos (by omega), h0 q]
    rfl
  · rw [if_neg (by omega)]
    exact h1 q
theorem kN_n (f : Nat) : kN f = if FwOps.bitAt f 0 = true then 1 else 0 := rfl
theorem run_is {op : Nat} (hop : op ≤ 43) (hw : 8 ≤ w) (h16 : 40 ≤ op → w = 16) (ha : a < 2 ^ w) (hb : b < 2 ^ w) (hc : c < 2 ^ w) :
    m_run (op : Int) w a b c f = res f (FwOps.act op w a b c (FwOps.bitAt f 0) (FwOps.bitAt f 4)) := by
  have w1 : 1 ≤ w := by omega
  have w2 : 2 ≤ w := by omega
  have aw : 40 ≤ op → a < 65536 := fun h => by
    rw [h16 h] at ha
    exact ha
  match op, hop, aw with
  | 0, _, _ => exact r_add (w := w) (a := a) (b := b) (c := c) (f := f) w1 ha hb
  | 1, _, _ => exact r_adc (w := w) (a := a) (b := b) (c := c) (f := f) w1 ha hb
  | 2, _, _ => exact r_sub (w := w) (a := a) (b := b) (c := c) (f := f) w1 ha hb
  | 3, _, _ => exact r_sbb (w := w) (a := a) (b := b) (c := c) (f := f) w1 ha hb
  | 4, _, _ => exact r_cmp (w := w) (a := a) (b := b) (c := c) (f := f) w1 ha hb
  | 5, _, _ => exact r_neg (w := w) (a := a) (b := b) (c := c) (f := f) w1 ha
  | 6, _, _ => exact r_inc (w := w) (a := a) (b := b) (c := c) (f := f) w1 ha
  | 7, _, _ => exact r_dec (w := w) (a := a) (b := b) (c := c) (f := f) w1 ha
  | 8, _, _ => exact r_and (w := w) (a := a) (b := b) (c := c) (f := f) w1 ha hb
  | 9, _, _ => exact r_or (w := w) (a := a) (b := b) (c := c) (f := f) w1 ha hb
  | 10, _, _ => exact r_xor (w := w) (a := a) (b := b) (c := c) (f := f) w1 ha hb
  | 11, _, _ => exact r_test (w := w) (a := a) (b := b) (c := c) (f := f) w1 ha hb
  | 12, _, _ => exact r_not (w := w) (a := a) (b := b) (c := c) (f := f) ha
  | 13, _, _ => exact step_shift (op := 13) (places_b (by decide)) (fun h => by show FwOps.shl _ _ _ = _; rw [h]; rfl) fun h => r_shl (b := b) w2 h
  | 14, _, _ => exact step_shift (op := 14) (places_b (by decide)) (fun h => by show FwOps.shr _ _ _ = _; rw [h]; rfl) fun h => r_shr (b := b) w2 h
  | 15, _, _ => exact step_shift (op := 15) (places_b (by decide)) (fun h => by show FwOps.sar _ _ _ = _; rw [h]; rfl) fun h => r_sar (b := b) w2 ha h
  | 16, _, _ => exact step_shift (op := 16) (places_b (by decide)) (fun h => by show FwOps.rol _ _ _ = _; rw [h]; rfl) fun h => r_rol (b := b) w2 ha h
  | 17, _, _ => exact step_shift (op := 17) (places_b (by decide)) (fun h => by show FwOps.ror _ _ _ = _; rw [h]; rfl) fun h => r_ror (b := b) w2 ha h
  | 18, _, _ => exact step_shift (op := 18) (places_b (by decide)) (fun h => by show FwOps.rcl _ _ _ _ = _; rw [h]; rfl) fun h => r_rcl (b := b) w2 ha h
  | 19, _, _ => exact step_shift (op := 19) (places_b (by decide)) (fun h => by show FwOps.rcr _ _ _ _ = _; rw [h]; rfl) fun h => r_rcr (b := b) w2 ha h
  | 20, _, _ => exact step_shift (op := 20) (places_c (by decide)) (fun h => by show FwOps.shld _ _ _ _ = _; rw [h]; rfl) fun h => r_shld (b := b) w2 h
  | 21, _, _ => exact step_shift (op := 21) (places_c (by decide)) (fun h => by show FwOps.shrd _ _ _ _ = _; rw [h]; rfl) fun h => r_shrd (b := b) w2 h
  | 22, _, _ => exact r_mul (w := w) (a := a) (b := b) (c := c) (f := f) ha hb
  | 23, _, _ => exact r_imul (w := w) (a := a) (b := b) (c := c) (f := f) w1 ha hb
  | 24, _, _ => exact r_div ha hb
  | 25, _, _ => exact r_idiv w1 ha hb hc
  | 26, _, _ => exact r_bt (w := w) (a := a) (b := b) (c := c) (f := f)
  | 27, _, _ => exact r_bts (w := w) (a := a) (b := b) (c := c) (f := f)
  | 28, _, _ => exact r_btr (w := w) (a := a) (b := b) (c := c) (f := f)
  | 29, _, _ => exact r_btc (w := w) (a := a) (b := b) (c := c) (f := f)
  | 30, _, _ => exact r_bsf (w := w) (a := a) (b := b) (c := c) (f := f) hb
  | 31, _, _ => exact r_bsr (w := w) (a := a) (b := b) (c := c) (f := f) hb
  | 32, _, _ => exact r_bswap (w := w) (a := a) (b := b) (c := c) (f := f)
  | 33, _, _ => exact r_xadd (w := w) (a := a) (b := b) (c := c) (f := f) w1 ha hb
  | 34, _, _ => exact r_cmpxchg w1 ha hc
  | 35, _, _ => exact r_clc (w := w) (a := a) (b := b) (c := c) (f := f)
  | 36, _, _ => exact r_stc (w := w) (a := a) (b := b) (c := c) (f := f)
  | 37, _, _ => exact r_cmc (w := w) (a := a) (b := b) (c := c) (f := f)
  | 38, _, _ => exact r_daa (w := w) (a := a) (b := b) (c := c) (f := f)
  | 39, _, _ => exact r_das (w := w) (a := a) (b := b) (c := c) (f := f)
  | 40, _, aw => exact r_aaa (w := w) (a := a) (b := b) (c := c) (f := f) (aw (by decide))
  | 41, _, aw => exact r_aas (w := w) (a := a) (b := b) (c := c) (f := f) (aw (by decide))
  | 42, _, _ => exact r_aam (w := w) (a := a) (b := b) (c := c) (f := f)
  | 43, _, _ => exact r_aad (w := w) (a := a) (b := b) (c := c) (f := f)
  | n + 44, h, _ => exact absurd h (by omega)
end
theorem widths_is {op w : Nat} (hop : op ≤ 255) : decide ((w : Int) ∈ m_widths_of (op : Int)) = decide (w ∈ FwOps.widths op) := by
  have e : m_widths_of (op : Int) = (FwOps.widths op).map fun n : Nat => (n : Int) := by
    unfold m_widths_of FwOps.widths
    simp only [decide_eq_true_eq, Bool.or_eq_true, Bool.and_eq_true]
    repeat' split
    all_goals first | rfl | (exfalso; omega)
  rw [e, decide_eq_decide, List.mem_map]
  constructor
  · rintro ⟨n, hn, e2⟩
    have e3 : n = w := by omega
    rw [← e3]
    exact hn
  · intro h
    exact ⟨w, h, rfl⟩
theorem widths_ge {op w : Nat} (h : w ∈ FwOps.widths op) : 8 ≤ w ∧ op ≤ 43 ∧ (40 ≤ op → w = 16) := by
  unfold FwOps.widths at h
  repeat' split at h
  all_goals (simp at h <;> omega)
theorem spec_is (op w a b c f : Nat) : PyWqacds.do_ (op : Int) (w : Int) (a : Int) (b : Int) (c : Int) (f : Int) = match FwOps.perform ⟨op, w, a, b, c, f⟩ with
    | .ok o => [0, (o.lo : Int), (o.hi : Int), (o.flags : Int)]
    | .error e => [e] := by
  have nn : ∀ n : Nat, FwLines.nat? (n : Int) = some n := fun n => by
    unfold FwLines.nat?
    rw [if_pos (by omega), Int.toNat_natCast]
  unfold PyWqacds.do_ Neutral.step Neutral.callOf
  simp only [nn]
  show (FlagOpsSpec.answerTo (.ask ⟨op, w, a, b, c, f⟩)).nums = _
  unfold FlagOpsSpec.answerTo
  dsimp only
  cases FwOps.perform ⟨op, w, a, b, c, f⟩ with
  | ok o => rfl
  | error e => rfl
theorem mirror_nat (op w a b c f : Nat) (hop : op ≤ 255) : m_do (op : Int) (w : Int) (a : Int) (b : Int) (c : Int) (f : Int) = PyWqacds.do_ (op : Int) (w : Int) (a : Int) (b : Int) (c : Int) (f : Int) := by
  rw [spec_is]
  unfold m_do FwOps.perform
  rw [widths_is hop]
  by_cases h : w ∈ FwOps.widths op
  · obtain ⟨h1, h2, h3⟩ := widths_ge h
    have hp := Nat.two_pow_pos w
    rw [decide_eq_true h, if_neg (by decide), and_great_nat, and_great_nat, and_great_nat, run_is h2 h1 h3 (Nat.mod_lt _ hp) (Nat.mod_lt _ hp) (Nat.mod_lt _ hp)]
    dsimp only
    rw [if_pos h]
    show res f (FwOps.act op w (a % 2 ^ w) (b % 2 ^ w) (c % 2 ^ w) (FwOps.bitAt f FwOps.CARRY) (FwOps.bitAt f FwOps.HALF)) = _
    cases FwOps.act op w (a % 2 ^ w) (b % 2 ^ w) (c % 2 ^ w) (FwOps.bitAt f FwOps.CARRY) (FwOps.bitAt f FwOps.HALF) with
    | ok r => rfl
    | error e => rfl
  · rw [decide_eq_false h, if_pos (by decide)]
    dsimp only
    rw [if_neg h]
theorem mirror_is {op width a b c flags : Int} (h1 : 0 ≤ op ∧ op ≤ 255) (h2 : 0 ≤ width ∧ width ≤ 255) (h3 : 0 ≤ a ∧ a ≤ 18446744073709551615) (h4 : 0 ≤ b ∧ b ≤ 18446744073709551615) (h5 : 0 ≤ c ∧ c ≤ 18446744073709551615) (h6 : 0 ≤ flags ∧ flags ≤ 4294967295) :
    m_do op width a b c flags = PyWqacds.do_ op width a b c flags := by
  obtain ⟨op, rfl⟩ := Int.eq_ofNat_of_zero_le h1.1
  obtain ⟨w, rfl⟩ := Int.eq_ofNat_of_zero_le h2.1
  obtain ⟨a, rfl⟩ := Int.eq_ofNat_of_zero_le h3.1
  obtain ⟨b, rfl⟩ := Int.eq_ofNat_of_zero_le h4.1
  obtain ⟨c, rfl⟩ := Int.eq_ofNat_of_zero_le h5.1
  obtain ⟨f, rfl⟩ := Int.eq_ofNat_of_zero_le h6.1
  exact mirror_nat op w a b c f (by omega)
end My

/-! ### The end: what the top has left (one run in the kernel, looked at by names), and the row -/
namespace My
open PySem PyProof.Rows L2 Evl
def keyB (e : DictEntry) : Bool := match e.key with
  | .int i _ => decide (e.hash = hashInt i)
  | _ => false
def valB (K : PySem.W.Frag) (es : Array DictEntry) (q : Int × Str) : Bool := match findBy Value.isInt es q.1 with
  | some (.ref a) => decide (a = He.ga K q.2)
  | _ => false
/-- the module's name t.1 is a dict of whole numbers to the defs so named -/
def tabB (K : PySem.W.Frag) (t : Str × List (Int × Str)) : Bool := match K.lookup (He.ga K t.1) with
  | some ⟨.type c, none, .dict es _, sl⟩ => (decide (c = "dict") && sl.isEmpty) && (es.toList.all keyB && t.2.all (valB K es))
  | _ => false
theorem tab_ok {K : PySem.W.Frag} {mg : Str → Option Value} {t : Str × List (Int × Str)} (h : tabB K t = true) (g : mg t.1 = some (.ref (He.ga K t.1))) (gs : ∀ q ∈ t.2, mg q.2 = some (.ref (He.ga K q.2))) : Tab mg K t.1 t.2 := by
  unfold tabB at h
  cases e : K.lookup (He.ga K t.1) with
  | none =>
    rw [e] at h
    cases h
  | some ob =>
    obtain ⟨oc, od, dt, osl⟩ := ob
    rw [e] at h
    cases oc with
    | type c =>
      cases od with
      | none =>
        cases dt with
        | dict es n =>
          have h1 : ((decide (c = "dict") && osl.isEmpty) && (es.toList.all keyB && t.2.all (valB K es))) = true := h
          rw [Bool.and_eq_true, Bool.and_eq_true, Bool.and_eq_true] at h1
          obtain ⟨⟨h2, h3⟩, h4, h5⟩ := h1
          have e1 : c = "dict" := of_decide_eq_true h2
          have e2 : osl = #[] := Array.isEmpty_iff.mp h3
          subst e1 e2
          refine ⟨_, g, es, n, e, fun d hd => ?_, fun q hq => ?_⟩
          · have k1 := List.all_eq_true.mp h4 d (Array.mem_toList_iff.mpr hd)
            unfold keyB at k1
            split at k1
            · rename_i i t ek
              refine ⟨i, ?_, of_decide_eq_true k1⟩
              rw [ek]
              simp [Value.isInt]
            · cases k1
          · have k1 := List.all_eq_true.mp h5 q hq
            unfold valB at k1
            split at k1
            · rename_i a ea
              have e3 : a = He.ga K q.2 := of_decide_eq_true k1
              exact ⟨a, ea, by rw [e3]; exact gs q hq⟩
            · cases k1
        | _ => cases h
      | some b => cases dt <;> cases h
    | _ => cases od <;> cases dt <;> cases h
abbrev Seen : Type := He.AlD × Bool
def seen (fa : List He.Fa) (fn : List He.DefD) (ts : List (Str × List (Int × Str))) (K : PySem.W.Frag) : Seen := (He.obsD fa fn K, ts.all (tabB K))
def seenG (n : Nat) (fa : List He.Fa) (fn : List He.DefD) (ts : List (Str × List (Int × Str))) (g : Addr → Option Obj) : Seen := seen fa fn ts (He.frG g (He.asD g n))
def look (n : Nat) (fa : List He.Fa) (fn : List He.DefD) (ts : List (Str × List (Int × Str))) : PySem.W.Hook where
  α := Seen
  obs := fun sh => seenG n fa fn ts sh.heap.get?
  val := fun _ => (He.valD fn, true)
  says := fun _ hp => ∃ K : PySem.W.Frag, K.In hp ∧ seen fa fn ts K = (He.valD fn, true)
  of := fun _ _ z => ⟨_, He.frG_in, z⟩
  keeps := fun _ _ _ ⟨K, inK, z⟩ kp => ⟨K, PySem.W.Frag.In.keeps inK kp, z⟩
/-- the end of a Spec row where the written part is told by what was seen -/
theorem walk_here {r : PySem.W.OpenSpec} {k : Nat} {q : Program} {lo : List Str} {XP : (Str → Option Value) → Heap → Prop} {YP : World → Heap → Prop} {d : DefRec} {ps : List Str} {sp : Sp}
    (well : r.wellSaid = true) (len : r.args.length = ps.length) (room : Room k callerA)
    (F : ∀ (w : World) (mg : Str → Option Value) (fa : Addr) (h : Heap), YP w h → h.Ns mainGlobals mg → mg d.name = some (.ref fa) →
      ∃ (K : PySem.W.Frag) (fd : FuncData), K.In h ∧ (∀ (s : Shared) (us : List Value), us.length = ps.length → BindsTo s fd ⟨us, []⟩ (ps.zip us)) ∧ ∀ base : Heap, FnOk r.prog w K mg base CX0 k fa fd ps sp)
    (hsp : ∀ (K : PySem.W.Frag) (H : Hp) (xs : List V) (a : PySem.W.Codec.denoteAll r.args), PySem.W.Codec.withinAll r.args a = true → DwAll K H xs (PySem.W.Codec.encAll r.args a) →
      sp xs H (fun v H' => Dw K H' v (r.ret.enc (PySem.W.Codec.app r.args r.f a))) fun _ _ _ => False) :
    PySem.W.WalkOS q lo XP YP r d [] (fun f vs => PySem.call f vs) := by
  intro w s0 s1 mg mb G Y fa o pm cd doc dV kV
  intro h1 h2 h3 h4 hmg hgens args vals as hpre hlay hread hwell hl
  obtain ⟨a, da, qa⟩ := PySem.W.os_pre_some hpre
  obtain ⟨ea, within⟩ := PySem.W.Codec.encAll_of_decAll r.args args a da
  subst ea
  obtain ⟨K, fd, KX, bnd, ok⟩ := F w mg fa _ Y G.T.g hmg
  have go := spec_call (R := []) (cl := classAt s0.heap) (d0 := r.ret.enc (PySem.W.Codec.app r.args r.f a)) KX G.T.g G.T.b G.T.builtins
    G.T.nolimit hgens hwell (pl_encAll _ _) (layable_weight hlay) room (fun base _ _ => ok base) bnd
    (by rw [encAll_len]; exact len) (fun H xs _ hx => hsp K H xs a within hx) (fun _ _ _ z => z)
  refine PySem.W.enter_call (codeAny_mono go fun r' s' hq => ?_)
  obtain ⟨u, as', rfl, k1, k2, k3, k4⟩ := hq
  refine ⟨.inl ⟨u, _, as', rfl, fun _ => rfl, k1, ?_, fun z => ?_⟩, k2, k3, k4⟩
  · exact (PySem.W.OpenSpec.post_iff well within _ _).mpr rfl
  · exact Bool.noConfusion (show false = true from z)

/-! what is looked at, by names -/
def d_greatest : He.DefD := ⟨("greatest", none), "greatest", "greatest", defArgs s_greatest, defBody s_greatest, defScope s_greatest, [], []⟩
def d_bit : He.DefD := ⟨("bit", none), "bit", "bit", defArgs s_bit, defBody s_bit, defScope s_bit, [], []⟩
def d_signed : He.DefD := ⟨("signed", none), "signed", "signed", defArgs s_signed, defBody s_signed, defScope s_signed, [], []⟩
def d_fits_signed : He.DefD := ⟨("fits_signed", none), "fits_signed", "fits_signed", defArgs s_fits_signed, defBody s_fits_signed, defScope s_fits_signed, [], []⟩
def d_carry_of : He.DefD := ⟨("carry_of", none), "carry_of", "carry_of", defArgs s_carry_of, defBody s_carry_of, defScope s_carry_of, [], []⟩
def d_put : He.DefD := ⟨("put", none), "put", "put", defArgs s_put, defBody s_put, defScope s_put, [], []⟩
def d_is_even_parity : He.DefD := ⟨("is_even_parity", none), "is_even_parity", "is_even_parity", defArgs s_is_even_parity, defBody s_is_even_parity, defScope s_is_even_parity, [], []⟩
def d_show : He.DefD := ⟨("show", none), "show", "show", defArgs s_show, defBody s_show, defScope s_show, [], []⟩
def d_answer : He.DefD := ⟨("answer", none), "answer", "answer", defArgs s_answer, defBody s_answer, defScope s_answer, [], []⟩
def d_is_low_digit_off : He.DefD := ⟨("is_low_digit_off", none), "is_low_digit_off", "is_low_digit_off", defArgs s_is_low_digit_off, defBody s_is_low_digit_off, defScope s_is_low_digit_off, [], []⟩
def d_is_high_digit_off : He.DefD := ⟨("is_high_digit_off", none), "is_high_digit_off", "is_high_digit_off", defArgs s_is_high_digit_off, defBody s_is_high_digit_off, defScope s_is_high_digit_off, [], []⟩
def d_amount_off : He.DefD := ⟨("amount_off", none), "amount_off", "amount_off", defArgs s_amount_off, defBody s_amount_off, defScope s_amount_off, [], []⟩
def d_put_half_and_carry : He.DefD := ⟨("put_half_and_carry", none), "put_half_and_carry", "put_half_and_carry", defArgs s_put_half_and_carry, defBody s_put_half_and_carry, defScope s_put_half_and_carry, [], []⟩
def d_op_daa : He.DefD := ⟨("op_daa", none), "op_daa", "op_daa", defArgs s_op_daa, defBody s_op_daa, defScope s_op_daa, [], []⟩
def d_op_das : He.DefD := ⟨("op_das", none), "op_das", "op_das", defArgs s_op_das, defBody s_op_das, defScope s_op_das, [], []⟩
def d_one_digit_answer : He.DefD := ⟨("one_digit_answer", none), "one_digit_answer", "one_digit_answer", defArgs s_one_digit_answer, defBody s_one_digit_answer, defScope s_one_digit_answer, [], []⟩
def d_op_aaa : He.DefD := ⟨("op_aaa", none), "op_aaa", "op_aaa", defArgs s_op_aaa, defBody s_op_aaa, defScope s_op_aaa, [], []⟩
def d_op_aas : He.DefD := ⟨("op_aas", none), "op_aas", "op_aas", defArgs s_op_aas, defBody s_op_aas, defScope s_op_aas, [], []⟩
def d_op_aam : He.DefD := ⟨("op_aam", none), "op_aam", "op_aam", defArgs s_op_aam, defBody s_op_aam, defScope s_op_aam, [], []⟩
def d_op_aad : He.DefD := ⟨("op_aad", none), "op_aad", "op_aad", defArgs s_op_aad, defBody s_op_aad, defScope s_op_aad, [], []⟩
def d_run_decimal : He.DefD := ⟨("run_decimal", none), "run_decimal", "run_decimal", defArgs s_run_decimal, defBody s_run_decimal, defScope s_run_decimal, [], []⟩
def d_bitwise_flags : He.DefD := ⟨("bitwise_flags", none), "bitwise_flags", "bitwise_flags", defArgs s_bitwise_flags, defBody s_bitwise_flags, defScope s_bitwise_flags, [], []⟩
def d_op_and : He.DefD := ⟨("op_and", none), "op_and", "op_and", defArgs s_op_and, defBody s_op_and, defScope s_op_and, [], []⟩
def d_op_or : He.DefD := ⟨("op_or", none), "op_or", "op_or", defArgs s_op_or, defBody s_op_or, defScope s_op_or, [], []⟩
def d_op_xor : He.DefD := ⟨("op_xor", none), "op_xor", "op_xor", defArgs s_op_xor, defBody s_op_xor, defScope s_op_xor, [], []⟩
def d_op_test : He.DefD := ⟨("op_test", none), "op_test", "op_test", defArgs s_op_test, defBody s_op_test, defScope s_op_test, [], []⟩
def d_op_not : He.DefD := ⟨("op_not", none), "op_not", "op_not", defArgs s_op_not, defBody s_op_not, defScope s_op_not, [], []⟩
def d_chosen_bit : He.DefD := ⟨("chosen_bit", none), "chosen_bit", "chosen_bit", defArgs s_chosen_bit, defBody s_chosen_bit, defScope s_chosen_bit, [], []⟩
def d_bit_flags : He.DefD := ⟨("bit_flags", none), "bit_flags", "bit_flags", defArgs s_bit_flags, defBody s_bit_flags, defScope s_bit_flags, [], []⟩
def d_op_bt : He.DefD := ⟨("op_bt", none), "op_bt", "op_bt", defArgs s_op_bt, defBody s_op_bt, defScope s_op_bt, [], []⟩
def d_op_bts : He.DefD := ⟨("op_bts", none), "op_bts", "op_bts", defArgs s_op_bts, defBody s_op_bts, defScope s_op_bts, [], []⟩
def d_op_btr : He.DefD := ⟨("op_btr", none), "op_btr", "op_btr", defArgs s_op_btr, defBody s_op_btr, defScope s_op_btr, [], []⟩
def d_op_btc : He.DefD := ⟨("op_btc", none), "op_btc", "op_btc", defArgs s_op_btc, defBody s_op_btc, defScope s_op_btc, [], []⟩
def d_op_bsf : He.DefD := ⟨("op_bsf", none), "op_bsf", "op_bsf", defArgs s_op_bsf, defBody s_op_bsf, defScope s_op_bsf, [], []⟩
def d_op_bsr : He.DefD := ⟨("op_bsr", none), "op_bsr", "op_bsr", defArgs s_op_bsr, defBody s_op_bsr, defScope s_op_bsr, [], []⟩
def d_op_bswap : He.DefD := ⟨("op_bswap", none), "op_bswap", "op_bswap", defArgs s_op_bswap, defBody s_op_bswap, defScope s_op_bswap, [], []⟩
def d_op_clc : He.DefD := ⟨("op_clc", none), "op_clc", "op_clc", defArgs s_op_clc, defBody s_op_clc, defScope s_op_clc, [], []⟩
def d_op_stc : He.DefD := ⟨("op_stc", none), "op_stc", "op_stc", defArgs s_op_stc, defBody s_op_stc, defScope s_op_stc, [], []⟩
def d_op_cmc : He.DefD := ⟨("op_cmc", none), "op_cmc", "op_cmc", defArgs s_op_cmc, defBody s_op_cmc, defScope s_op_cmc, [], []⟩
def d_run_place : He.DefD := ⟨("run_place", none), "run_place", "run_place", defArgs s_run_place, defBody s_run_place, defScope s_run_place, [], []⟩
def d_product_answer : He.DefD := ⟨("product_answer", none), "product_answer", "product_answer", defArgs s_product_answer, defBody s_product_answer, defScope s_product_answer, [], []⟩
def d_op_mul : He.DefD := ⟨("op_mul", none), "op_mul", "op_mul", defArgs s_op_mul, defBody s_op_mul, defScope s_op_mul, [], []⟩
def d_op_imul : He.DefD := ⟨("op_imul", none), "op_imul", "op_imul", defArgs s_op_imul, defBody s_op_imul, defScope s_op_imul, [], []⟩
def d_op_div : He.DefD := ⟨("op_div", none), "op_div", "op_div", defArgs s_op_div, defBody s_op_div, defScope s_op_div, [], []⟩
def d_cut_quotient : He.DefD := ⟨("cut_quotient", none), "cut_quotient", "cut_quotient", defArgs s_cut_quotient, defBody s_cut_quotient, defScope s_cut_quotient, [], []⟩
def d_op_idiv : He.DefD := ⟨("op_idiv", none), "op_idiv", "op_idiv", defArgs s_op_idiv, defBody s_op_idiv, defScope s_op_idiv, [], []⟩
def d_run_product : He.DefD := ⟨("run_product", none), "run_product", "run_product", defArgs s_run_product, defBody s_run_product, defScope s_run_product, [], []⟩
def d_turned_left : He.DefD := ⟨("turned_left", none), "turned_left", "turned_left", defArgs s_turned_left, defBody s_turned_left, defScope s_turned_left, [], []⟩
def d_turned_right : He.DefD := ⟨("turned_right", none), "turned_right", "turned_right", defArgs s_turned_right, defBody s_turned_right, defScope s_turned_right, [], []⟩
def d_is_top_not_carry : He.DefD := ⟨("is_top_not_carry", none), "is_top_not_carry", "is_top_not_carry", defArgs s_is_top_not_carry, defBody s_is_top_not_carry, defScope s_is_top_not_carry, [], []⟩
def d_op_shl : He.DefD := ⟨("op_shl", none), "op_shl", "op_shl", defArgs s_op_shl, defBody s_op_shl, defScope s_op_shl, [], []⟩
def d_op_shr : He.DefD := ⟨("op_shr", none), "op_shr", "op_shr", defArgs s_op_shr, defBody s_op_shr, defScope s_op_shr, [], []⟩
def d_op_sar : He.DefD := ⟨("op_sar", none), "op_sar", "op_sar", defArgs s_op_sar, defBody s_op_sar, defScope s_op_sar, [], []⟩
def d_op_rol : He.DefD := ⟨("op_rol", none), "op_rol", "op_rol", defArgs s_op_rol, defBody s_op_rol, defScope s_op_rol, [], []⟩
def d_op_ror : He.DefD := ⟨("op_ror", none), "op_ror", "op_ror", defArgs s_op_ror, defBody s_op_ror, defScope s_op_ror, [], []⟩
def d_with_carry_above : He.DefD := ⟨("with_carry_above", none), "with_carry_above", "with_carry_above", defArgs s_with_carry_above, defBody s_with_carry_above, defScope s_with_carry_above, [], []⟩
def d_op_rcl : He.DefD := ⟨("op_rcl", none), "op_rcl", "op_rcl", defArgs s_op_rcl, defBody s_op_rcl, defScope s_op_rcl, [], []⟩
def d_op_rcr : He.DefD := ⟨("op_rcr", none), "op_rcr", "op_rcr", defArgs s_op_rcr, defBody s_op_rcr, defScope s_op_rcr, [], []⟩
def d_double_answer : He.DefD := ⟨("double_answer", none), "double_answer", "double_answer", defArgs s_double_answer, defBody s_double_answer, defScope s_double_answer, [], []⟩
def d_op_shld : He.DefD := ⟨("op_shld", none), "op_shld", "op_shld", defArgs s_op_shld, defBody s_op_shld, defScope s_op_shld, [], []⟩
def d_op_shrd : He.DefD := ⟨("op_shrd", none), "op_shrd", "op_shrd", defArgs s_op_shrd, defBody s_op_shrd, defScope s_op_shrd, [], []⟩
def d_places_to_go : He.DefD := ⟨("places_to_go", none), "places_to_go", "places_to_go", defArgs s_places_to_go, defBody s_places_to_go, defScope s_places_to_go, [], []⟩
def d_run_shift : He.DefD := ⟨("run_shift", none), "run_shift", "run_shift", defArgs s_run_shift, defBody s_run_shift, defScope s_run_shift, [], []⟩
def d_total : He.DefD := ⟨("total", none), "total", "total", defArgs s_total, defBody s_total, defScope s_total, [], []⟩
def d_difference : He.DefD := ⟨("difference", none), "difference", "difference", defArgs s_difference, defBody s_difference, defScope s_difference, [], []⟩
def d_total_flags : He.DefD := ⟨("total_flags", none), "total_flags", "total_flags", defArgs s_total_flags, defBody s_total_flags, defScope s_total_flags, [], []⟩
def d_difference_flags : He.DefD := ⟨("difference_flags", none), "difference_flags", "difference_flags", defArgs s_difference_flags, defBody s_difference_flags, defScope s_difference_flags, [], []⟩
def d_with_carry_of : He.DefD := ⟨("with_carry_of", none), "with_carry_of", "with_carry_of", defArgs s_with_carry_of, defBody s_with_carry_of, defScope s_with_carry_of, [], []⟩
def d_op_add : He.DefD := ⟨("op_add", none), "op_add", "op_add", defArgs s_op_add, defBody s_op_add, defScope s_op_add, [], []⟩
def d_op_adc : He.DefD := ⟨("op_adc", none), "op_adc", "op_adc", defArgs s_op_adc, defBody s_op_adc, defScope s_op_adc, [], []⟩
def d_op_sub : He.DefD := ⟨("op_sub", none), "op_sub", "op_sub", defArgs s_op_sub, defBody s_op_sub, defScope s_op_sub, [], []⟩
def d_op_sbb : He.DefD := ⟨("op_sbb", none), "op_sbb", "op_sbb", defArgs s_op_sbb, defBody s_op_sbb, defScope s_op_sbb, [], []⟩
def d_op_cmp : He.DefD := ⟨("op_cmp", none), "op_cmp", "op_cmp", defArgs s_op_cmp, defBody s_op_cmp, defScope s_op_cmp, [], []⟩
def d_op_neg : He.DefD := ⟨("op_neg", none), "op_neg", "op_neg", defArgs s_op_neg, defBody s_op_neg, defScope s_op_neg, [], []⟩
def d_op_inc : He.DefD := ⟨("op_inc", none), "op_inc", "op_inc", defArgs s_op_inc, defBody s_op_inc, defScope s_op_inc, [], []⟩
def d_op_dec : He.DefD := ⟨("op_dec", none), "op_dec", "op_dec", defArgs s_op_dec, defBody s_op_dec, defScope s_op_dec, [], []⟩
def d_op_xadd : He.DefD := ⟨("op_xadd", none), "op_xadd", "op_xadd", defArgs s_op_xadd, defBody s_op_xadd, defScope s_op_xadd, [], []⟩
def d_op_cmpxchg : He.DefD := ⟨("op_cmpxchg", none), "op_cmpxchg", "op_cmpxchg", defArgs s_op_cmpxchg, defBody s_op_cmpxchg, defScope s_op_cmpxchg, [], []⟩
def d_run_sum : He.DefD := ⟨("run_sum", none), "run_sum", "run_sum", defArgs s_run_sum, defBody s_run_sum, defScope s_run_sum, [], []⟩
def d_widths_of : He.DefD := ⟨("widths_of", none), "widths_of", "widths_of", defArgs s_widths_of, defBody s_widths_of, defScope s_widths_of, [], []⟩
def d_run : He.DefD := ⟨("run", none), "run", "run", defArgs s_run, defBody s_run, defScope s_run, [], []⟩
def d_do : He.DefD := ⟨("do", none), "do", "do", defArgs s_do, defBody s_do, defScope s_do, [], []⟩
def fn0 : List He.DefD := [d_greatest, d_bit, d_signed, d_fits_signed, d_carry_of, d_put, d_is_even_parity, d_show, d_answer, d_is_low_digit_off, d_is_high_digit_off, d_amount_off, d_put_half_and_carry, d_op_daa, d_op_das, d_one_digit_answer, d_op_aaa, d_op_aas, d_op_aam, d_op_aad, d_run_decimal, d_bitwise_flags, d_op_and, d_op_or, d_op_xor, d_op_test, d_op_not, d_chosen_bit, d_bit_flags, d_op_bt]
def gl0 : List He.Fa := [.glo "greatest", .glo "bit", .glo "signed", .glo "fits_signed", .glo "carry_of", .glo "put", .glo "is_even_parity", .glo "show", .glo "answer", .glo "is_low_digit_off", .glo "is_high_digit_off", .glo "amount_off", .glo "put_half_and_carry", .glo "op_daa", .glo "op_das", .glo "one_digit_answer", .glo "op_aaa", .glo "op_aas", .glo "op_aam", .glo "op_aad", .glo "run_decimal", .glo "bitwise_flags", .glo "op_and", .glo "op_or", .glo "op_xor", .glo "op_test", .glo "op_not", .glo "chosen_bit", .glo "bit_flags", .glo "op_bt"]
def fn1 : List He.DefD := [d_op_bts, d_op_btr, d_op_btc, d_op_bsf, d_op_bsr, d_op_bswap, d_op_clc, d_op_stc, d_op_cmc, d_run_place, d_product_answer, d_op_mul, d_op_imul, d_op_div, d_cut_quotient, d_op_idiv, d_run_product, d_turned_left, d_turned_right, d_is_top_not_carry, d_op_shl, d_op_shr, d_op_sar, d_op_rol, d_op_ror, d_with_carry_above, d_op_rcl, d_op_rcr, d_double_answer, d_op_shld]
def gl1 : List He.Fa := [.glo "op_bts", .glo "op_btr", .glo "op_btc", .glo "op_bsf", .glo "op_bsr", .glo "op_bswap", .glo "op_clc", .glo "op_stc", .glo "op_cmc", .glo "run_place", .glo "product_answer", .glo "op_mul", .glo "op_imul", .glo "op_div", .glo "cut_quotient", .glo "op_idiv", .glo "run_product", .glo "turned_left", .glo "turned_right", .glo "is_top_not_carry", .glo "op_shl", .glo "op_shr", .glo "op_sar", .glo "op_rol", .glo "op_ror", .glo "with_carry_above", .glo "op_rcl", .glo "op_rcr", .glo "double_answer", .glo "op_shld"]
def fn2 : List He.DefD := [d_op_shrd, d_places_to_go, d_run_shift, d_total, d_difference, d_total_flags, d_difference_flags, d_with_carry_of, d_op_add, d_op_adc, d_op_sub, d_op_sbb, d_op_cmp, d_op_neg, d_op_inc, d_op_dec, d_op_xadd, d_op_cmpxchg, d_run_sum, d_widths_of, d_run, d_do]
def gl2 : List He.Fa := [.glo "op_shrd", .glo "places_to_go", .glo "run_shift", .glo "total", .glo "difference", .glo "total_flags", .glo "difference_flags", .glo "with_carry_of", .glo "op_add", .glo "op_adc", .glo "op_sub", .glo "op_sbb", .glo "op_cmp", .glo "op_neg", .glo "op_inc", .glo "op_dec", .glo "op_xadd", .glo "op_cmpxchg", .glo "run_sum", .glo "widths_of", .glo "run", .glo "do"]
def glx : List He.Fa := [.glo "DECIMAL_STEPS", .glo "PLACE_STEPS", .glo "PRODUCT_STEPS", .glo "SHIFT_STEPS", .glo "SUM_STEPS", .int "CARRY" 1, .int "PARITY" 4, .int "HALF_CARRY" 16, .int "ZERO" 64, .int "SIGN" 128, .int "OVERFLOW" 2048, .free "abs", .free "range"]
def fns : List He.DefD := fn0 ++ (fn1 ++ (fn2))
def fas : List He.Fa := gl0 ++ (gl1 ++ (gl2 ++ (glx)))
def tb_DECIMAL_STEPS : Str × List (Int × Str) := ("DECIMAL_STEPS", [(38, "op_daa"), (39, "op_das"), (40, "op_aaa"), (41, "op_aas"), (42, "op_aam"), (43, "op_aad")])
def tb_PLACE_STEPS : Str × List (Int × Str) := ("PLACE_STEPS", [(8, "op_and"), (9, "op_or"), (10, "op_xor"), (11, "op_test"), (12, "op_not"), (26, "op_bt"), (27, "op_bts"), (28, "op_btr"), (29, "op_btc"), (30, "op_bsf"), (31, "op_bsr"), (32, "op_bswap"), (35, "op_clc"), (36, "op_stc"), (37, "op_cmc")])
def tb_PRODUCT_STEPS : Str × List (Int × Str) := ("PRODUCT_STEPS", [(22, "op_mul"), (23, "op_imul"), (24, "op_div"), (25, "op_idiv")])
def tb_SHIFT_STEPS : Str × List (Int × Str) := ("SHIFT_STEPS", [(13, "op_shl"), (14, "op_shr"), (15, "op_sar"), (16, "op_rol"), (17, "op_ror"), (18, "op_rcl"), (19, "op_rcr"), (20, "op_shld"), (21, "op_shrd")])
def tb_SUM_STEPS : Str × List (Int × Str) := ("SUM_STEPS", [(0, "op_add"), (1, "op_adc"), (2, "op_sub"), (3, "op_sbb"), (4, "op_cmp"), (5, "op_neg"), (6, "op_inc"), (7, "op_dec"), (33, "op_xadd"), (34, "op_cmpxchg")])
def tbs : List (Str × List (Int × Str)) := [tb_DECIMAL_STEPS, tb_PLACE_STEPS, tb_PRODUCT_STEPS, tb_SHIFT_STEPS, tb_SUM_STEPS]
def lo0 : List Str := ["greatest", "bit", "signed", "fits_signed", "carry_of", "put", "is_even_parity", "show", "answer", "is_low_digit_off", "is_high_digit_off", "amount_off"]
def lo1 : List Str := ["put_half_and_carry", "op_daa", "op_das", "one_digit_answer", "op_aaa", "op_aas", "op_aam", "op_aad", "run_decimal", "bitwise_flags", "op_and", "op_or"]
def lo2 : List Str := ["op_xor", "op_test", "op_not", "chosen_bit", "bit_flags", "op_bt", "op_bts", "op_btr", "op_btc", "op_bsf", "op_bsr", "op_bswap"]
def lo3 : List Str := ["op_clc", "op_stc", "op_cmc", "run_place", "product_answer", "op_mul", "op_imul", "op_div", "cut_quotient", "op_idiv", "run_product", "turned_left"]
def lo4 : List Str := ["turned_right", "is_top_not_carry", "op_shl", "op_shr", "op_sar", "op_rol", "op_ror", "with_carry_above", "op_rcl", "op_rcr", "double_answer", "op_shld"]
def lo5 : List Str := ["op_shrd", "places_to_go", "run_shift", "total", "difference", "total_flags", "difference_flags", "with_carry_of", "op_add", "op_adc", "op_sub", "op_sbb"]
def lo6 : List Str := ["op_cmp", "op_neg", "op_inc", "op_dec", "op_xadd", "op_cmpxchg", "run_sum", "widths_of", "run", "CARRY", "PARITY", "HALF_CARRY"]
def lo7 : List Str := ["ZERO", "SIGN", "OVERFLOW", "DECIMAL_STEPS", "PLACE_STEPS", "PRODUCT_STEPS", "SHIFT_STEPS", "SUM_STEPS"]
def los : List Str := lo0 ++ (lo1 ++ (lo2 ++ (lo3 ++ (lo4 ++ (lo5 ++ (lo6 ++ (lo7)))))))
abbrev hk : PySem.W.Hook := look 2 fas fns tbs
def ob (s : PySem.W.SharedT) : Seen := seenG 2 fas fns tbs (HandSHeadRun.getT s)
theorem ob_eq (s : PySem.W.SharedT) : ob s = hk.obs s.abs := by
  have e : HandSHeadRun.getT s = s.abs.heap.get? := funext (HandSHeadRun.getT_eq s)
  show seenG 2 fas fns tbs (HandSHeadRun.getT s) = _
  rw [e]
  rfl
abbrev R : PySem.W.OpenSpec := PySem.Challenge.rw_flagwork_s01_do
abbrev RunP (w : World) : Prop := HandSHeadRun.RunEqS R (PySem.W.view R.prog [99]) hk ob 20000 los w
theorem run_f (w : World) : RunP (w.withFollow "special-get-raises" false) := by
  intro os
  kernel_rfl
theorem run_t (w : World) : RunP (w.withFollow "special-get-raises" true) := by
  intro os
  kernel_rfl
theorem run (w : World) : RunP w := PySem.W.byRow2 "special-get-raises" (P := RunP) run_f run_t w

theorem facts {P : Program} {w : World} {K : PySem.W.Frag} {h : Heap} {mg : Str → Option Value} {f : Addr} (X : K.In h) (G : h.Ns mainGlobals mg) (hf : mg ("do" : Str) = some (.ref f)) (c : seen fas fns tbs K = (He.valD fns, true)) :
    ∃ fd : FuncData, (∀ (s : Shared) (us : List Value), us.length = 6 → BindsTo s fd ⟨us, []⟩ ((["op", "width", "a", "b", "c", "flags"] : List Str).zip us)) ∧ ∀ base : Heap, FnOk P w K mg base CX0 8 f fd ["op", "width", "a", "b", "c", "flags"] sp_do := by
  have cd : He.SaysD fas fns K := congrArg (fun z : Seen => z.1) c
  have ct : tbs.all (tabB K) = true := congrArg (fun z : Seen => z.2) c
  obtain ⟨fd_greatest, F_greatest⟩ := cd.def_ 0 (d := d_greatest) rfl
  have g_greatest : mg "greatest" = some (.ref (He.ga K "greatest")) := He.glo_ok X G (cd.fact 0 (f := .glo "greatest") rfl)
  obtain ⟨fd_bit, F_bit⟩ := cd.def_ 1 (d := d_bit) rfl
  have g_bit : mg "bit" = some (.ref (He.ga K "bit")) := He.glo_ok X G (cd.fact 1 (f := .glo "bit") rfl)
  obtain ⟨fd_signed, F_signed⟩ := cd.def_ 2 (d := d_signed) rfl
  have g_signed : mg "signed" = some (.ref (He.ga K "signed")) := He.glo_ok X G (cd.fact 2 (f := .glo "signed") rfl)
  obtain ⟨fd_fits_signed, F_fits_signed⟩ := cd.def_ 3 (d := d_fits_signed) rfl
  have g_fits_signed : mg "fits_signed" = some (.ref (He.ga K "fits_signed")) := He.glo_ok X G (cd.fact 3 (f := .glo "fits_signed") rfl)
  obtain ⟨fd_carry_of, F_carry_of⟩ := cd.def_ 4 (d := d_carry_of) rfl
  have g_carry_of : mg "carry_of" = some (.ref (He.ga K "carry_of")) := He.glo_ok X G (cd.fact 4 (f := .glo "carry_of") rfl)
  obtain ⟨fd_put, F_put⟩ := cd.def_ 5 (d := d_put) rfl
  have g_put : mg "put" = some (.ref (He.ga K "put")) := He.glo_ok X G (cd.fact 5 (f := .glo "put") rfl)
  obtain ⟨fd_is_even_parity, F_is_even_parity⟩ := cd.def_ 6 (d := d_is_even_parity) rfl
  have g_is_even_parity : mg "is_even_parity" = some (.ref (He.ga K "is_even_parity")) := He.glo_ok X G (cd.fact 6 (f := .glo "is_even_parity") rfl)
  obtain ⟨fd_show, F_show⟩ := cd.def_ 7 (d := d_show) rfl
  have g_show : mg "show" = some (.ref (He.ga K "show")) := He.glo_ok X G (cd.fact 7 (f := .glo "show") rfl)
  obtain ⟨fd_answer, F_answer⟩ := cd.def_ 8 (d := d_answer) rfl
  have g_answer : mg "answer" = some (.ref (He.ga K "answer")) := He.glo_ok X G (cd.fact 8 (f := .glo "answer") rfl)
  obtain ⟨fd_is_low_digit_off, F_is_low_digit_off⟩ := cd.def_ 9 (d := d_is_low_digit_off) rfl
  have g_is_low_digit_off : mg "is_low_digit_off" = some (.ref (He.ga K "is_low_digit_off")) := He.glo_ok X G (cd.fact 9 (f := .glo "is_low_digit_off") rfl)
  obtain ⟨fd_is_high_digit_off, F_is_high_digit_off⟩ := cd.def_ 10 (d := d_is_high_digit_off) rfl
  have g_is_high_digit_off : mg "is_high_digit_off" = some (.ref (He.ga K "is_high_digit_off")) := He.glo_ok X G (cd.fact 10 (f := .glo "is_high_digit_off") rfl)
  obtain ⟨fd_amount_off, F_amount_off⟩ := cd.def_ 11 (d := d_amount_off) rfl
  have g_amount_off : mg "amount_off" = some (.ref (He.ga K "amount_off")) := He.glo_ok X G (cd.fact 11 (f := .glo "amount_off") rfl)
  obtain ⟨fd_put_half_and_carry, F_put_half_and_carry⟩ := cd.def_ 12 (d := d_put_half_and_carry) rfl
  have g_put_half_and_carry : mg "put_half_and_carry" = some (.ref (He.ga K "put_half_and_carry")) := He.glo_ok X G (cd.fact 12 (f := .glo "put_half_and_carry") rfl)
  obtain ⟨fd_op_daa, F_op_daa⟩ := cd.def_ 13 (d := d_op_daa) rfl
  have g_op_daa : mg "op_daa" = some (.ref (He.ga K "op_daa")) := He.glo_ok X G (cd.fact 13 (f := .glo "op_daa") rfl)
  obtain ⟨fd_op_das, F_op_das⟩ := cd.def_ 14 (d := d_op_das) rfl
  have g_op_das : mg "op_das" = some (.ref (He.ga K "op_das")) := He.glo_ok X G (cd.fact 14 (f := .glo "op_das") rfl)
  obtain ⟨fd_one_digit_answer, F_one_digit_answer⟩ := cd.def_ 15 (d := d_one_digit_answer) rfl
  have g_one_digit_answer : mg "one_digit_answer" = some (.ref (He.ga K "one_digit_answer")) := He.glo_ok X G (cd.fact 15 (f := .glo "one_digit_answer") rfl)
  obtain ⟨fd_op_aaa, F_op_aaa⟩ := cd.def_ 16 (d := d_op_aaa) rfl
  have g_op_aaa : mg "op_aaa" = some (.ref (He.ga K "op_aaa")) := He.glo_ok X G (cd.fact 16 (f := .glo "op_aaa") rfl)
  obtain ⟨fd_op_aas, F_op_aas⟩ := cd.def_ 17 (d := d_op_aas) rfl
  have g_op_aas : mg "op_aas" = some (.ref (He.ga K "op_aas")) := He.glo_ok X G (cd.fact 17 (f := .glo "op_aas") rfl)
  obtain ⟨fd_op_aam, F_op_aam⟩ := cd.def_ 18 (d := d_op_aam) rfl
  have g_op_aam : mg "op_aam" = some (.ref (He.ga K "op_aam")) := He.glo_ok X G (cd.fact 18 (f := .glo "op_aam") rfl)
  obtain ⟨fd_op_aad, F_op_aad⟩ := cd.def_ 19 (d := d_op_aad) rfl
  have g_op_aad : mg "op_aad" = some (.ref (He.ga K "op_aad")) := He.glo_ok X G (cd.fact 19 (f := .glo "op_aad") rfl)
  obtain ⟨fd_run_decimal, F_run_decimal⟩ := cd.def_ 20 (d := d_run_decimal) rfl
  have g_run_decimal : mg "run_decimal" = some (.ref (He.ga K "run_decimal")) := He.glo_ok X G (cd.fact 20 (f := .glo "run_decimal") rfl)
  obtain ⟨fd_bitwise_flags, F_bitwise_flags⟩ := cd.def_ 21 (d := d_bitwise_flags) rfl
  have g_bitwise_flags : mg "bitwise_flags" = some (.ref (He.ga K "bitwise_flags")) := He.glo_ok X G (cd.fact 21 (f := .glo "bitwise_flags") rfl)
  obtain ⟨fd_op_and, F_op_and⟩ := cd.def_ 22 (d := d_op_and) rfl
  have g_op_and : mg "op_and" = some (.ref (He.ga K "op_and")) := He.glo_ok X G (cd.fact 22 (f := .glo "op_and") rfl)
  obtain ⟨fd_op_or, F_op_or⟩ := cd.def_ 23 (d := d_op_or) rfl
  have g_op_or : mg "op_or" = some (.ref (He.ga K "op_or")) := He.glo_ok X G (cd.fact 23 (f := .glo "op_or") rfl)
  obtain ⟨fd_op_xor, F_op_xor⟩ := cd.def_ 24 (d := d_op_xor) rfl
  have g_op_xor : mg "op_xor" = some (.ref (He.ga K "op_xor")) := He.glo_ok X G (cd.fact 24 (f := .glo "op_xor") rfl)
  obtain ⟨fd_op_test, F_op_test⟩ := cd.def_ 25 (d := d_op_test) rfl
  have g_op_test : mg "op_test" = some (.ref (He.ga K "op_test")) := He.glo_ok X G (cd.fact 25 (f := .glo "op_test") rfl)
  obtain ⟨fd_op_not, F_op_not⟩ := cd.def_ 26 (d := d_op_not) rfl
  have g_op_not : mg "op_not" = some (.ref (He.ga K "op_not")) := He.glo_ok X G (cd.fact 26 (f := .glo "op_not") rfl)
  obtain ⟨fd_chosen_bit, F_chosen_bit⟩ := cd.def_ 27 (d := d_chosen_bit) rfl
  have g_chosen_bit : mg "chosen_bit" = some (.ref (He.ga K "chosen_bit")) := He.glo_ok X G (cd.fact 27 (f := .glo "chosen_bit") rfl)
  obtain ⟨fd_bit_flags, F_bit_flags⟩ := cd.def_ 28 (d := d_bit_flags) rfl
  have g_bit_flags : mg "bit_flags" = some (.ref (He.ga K "bit_flags")) := He.glo_ok X G (cd.fact 28 (f := .glo "bit_flags") rfl)
  obtain ⟨fd_op_bt, F_op_bt⟩ := cd.def_ 29 (d := d_op_bt) rfl
  have g_op_bt : mg "op_bt" = some (.ref (He.ga K "op_bt")) := He.glo_ok X G (cd.fact 29 (f := .glo "op_bt") rfl)
  obtain ⟨fd_op_bts, F_op_bts⟩ := cd.def_ 30 (d := d_op_bts) rfl
  have g_op_bts : mg "op_bts" = some (.ref (He.ga K "op_bts")) := He.glo_ok X G (cd.fact 30 (f := .glo "op_bts") rfl)
  obtain ⟨fd_op_btr, F_op_btr⟩ := cd.def_ 31 (d := d_op_btr) rfl
  have g_op_btr : mg "op_btr" = some (.ref (He.ga K "op_btr")) := He.glo_ok X G (cd.fact 31 (f := .glo "op_btr") rfl)
  obtain ⟨fd_op_btc, F_op_btc⟩ := cd.def_ 32 (d := d_op_btc) rfl
  have g_op_btc : mg "op_btc" = some (.ref (He.ga K "op_btc")) := He.glo_ok X G (cd.fact 32 (f := .glo "op_btc") rfl)
  obtain ⟨fd_op_bsf, F_op_bsf⟩ := cd.def_ 33 (d := d_op_bsf) rfl
  have g_op_bsf : mg "op_bsf" = some (.ref (He.ga K "op_bsf")) := He.glo_ok X G (cd.fact 33 (f := .glo "op_bsf") rfl)
  obtain ⟨fd_op_bsr, F_op_bsr⟩ := cd.def_ 34 (d := d_op_bsr) rfl
  have g_op_bsr : mg "op_bsr" = some (.ref (He.ga K "op_bsr")) := He.glo_ok X G (cd.fact 34 (f := .glo "op_bsr") rfl)
  obtain ⟨fd_op_bswap, F_op_bswap⟩ := cd.def_ 35 (d := d_op_bswap) rfl
  have g_op_bswap : mg "op_bswap" = some (.ref (He.ga K "op_bswap")) := He.glo_ok X G (cd.fact 35 (f := .glo "op_bswap") rfl)
  obtain ⟨fd_op_clc, F_op_clc⟩ := cd.def_ 36 (d := d_op_clc) rfl
  have g_op_clc : mg "op_clc" = some (.ref (He.ga K "op_clc")) := He.glo_ok X G (cd.fact 36 (f := .glo "op_clc") rfl)
  obtain ⟨fd_op_stc, F_op_stc⟩ := cd.def_ 37 (d := d_op_stc) rfl
  have g_op_stc : mg "op_stc" = some (.ref (He.ga K "op_stc")) := He.glo_ok X G (cd.fact 37 (f := .glo "op_stc") rfl)
  obtain ⟨fd_op_cmc, F_op_cmc⟩ := cd.def_ 38 (d := d_op_cmc) rfl
  have g_op_cmc : mg "op_cmc" = some (.ref (He.ga K "op_cmc")) := He.glo_ok X G (cd.fact 38 (f := .glo "op_cmc") rfl)
  obtain ⟨fd_run_place, F_run_place⟩ := cd.def_ 39 (d := d_run_place) rfl
  have g_run_place : mg "run_place" = some (.ref (He.ga K "run_place")) := He.glo_ok X G (cd.fact 39 (f := .glo "run_place") rfl)
  obtain ⟨fd_product_answer, F_product_answer⟩ := cd.def_ 40 (d := d_product_answer) rfl
  have g_product_answer : mg "product_answer" = some (.ref (He.ga K "product_answer")) := He.glo_ok X G (cd.fact 40 (f := .glo "product_answer") rfl)
  obtain ⟨fd_op_mul, F_op_mul⟩ := cd.def_ 41 (d := d_op_mul) rfl
  have g_op_mul : mg "op_mul" = some (.ref (He.ga K "op_mul")) := He.glo_ok X G (cd.fact 41 (f := .glo "op_mul") rfl)
  obtain ⟨fd_op_imul, F_op_imul⟩ := cd.def_ 42 (d := d_op_imul) rfl
  have g_op_imul : mg "op_imul" = some (.ref (He.ga K "op_imul")) := He.glo_ok X G (cd.fact 42 (f := .glo "op_imul") rfl)
  obtain ⟨fd_op_div, F_op_div⟩ := cd.def_ 43 (d := d_op_div) rfl
  have g_op_div : mg "op_div" = some (.ref (He.ga K "op_div")) := He.glo_ok X G (cd.fact 43 (f := .glo "op_div") rfl)
  obtain ⟨fd_cut_quotient, F_cut_quotient⟩ := cd.def_ 44 (d := d_cut_quotient) rfl
  have g_cut_quotient : mg "cut_quotient" = some (.ref (He.ga K "cut_quotient")) := He.glo_ok X G (cd.fact 44 (f := .glo "cut_quotient") rfl)
  obtain ⟨fd_op_idiv, F_op_idiv⟩ := cd.def_ 45 (d := d_op_idiv) rfl
  have g_op_idiv : mg "op_idiv" = some (.ref (He.ga K "op_idiv")) := He.glo_ok X G (cd.fact 45 (f := .glo "op_idiv") rfl)
  obtain ⟨fd_run_product, F_run_product⟩ := cd.def_ 46 (d := d_run_product) rfl
  have g_run_product : mg "run_product" = some (.ref (He.ga K "run_product")) := He.glo_ok X G (cd.fact 46 (f := .glo "run_product") rfl)
  obtain ⟨fd_turned_left, F_turned_left⟩ := cd.def_ 47 (d := d_turned_left) rfl
  have g_turned_left : mg "turned_left" = some (.ref (He.ga K "turned_left")) := He.glo_ok X G (cd.fact 47 (f := .glo "turned_left") rfl)
  obtain ⟨fd_turned_right, F_turned_right⟩ := cd.def_ 48 (d := d_turned_right) rfl
  have g_turned_right : mg "turned_right" = some (.ref (He.ga K "turned_right")) := He.glo_ok X G (cd.fact 48 (f := .glo "turned_right") rfl)
  obtain ⟨fd_is_top_not_carry, F_is_top_not_carry⟩ := cd.def_ 49 (d := d_is_top_not_carry) rfl
  have g_is_top_not_carry : mg "is_top_not_carry" = some (.ref (He.ga K "is_top_not_carry")) := He.glo_ok X G (cd.fact 49 (f := .glo "is_top_not_carry") rfl)
  obtain ⟨fd_op_shl, F_op_shl⟩ := cd.def_ 50 (d := d_op_shl) rfl
  have g_op_shl : mg "op_shl" = some (.ref (He.ga K "op_shl")) := He.glo_ok X G (cd.fact 50 (f := .glo "op_shl") rfl)
  obtain ⟨fd_op_shr, F_op_shr⟩ := cd.def_ 51 (d := d_op_shr) rfl
  have g_op_shr : mg "op_shr" = some (.ref (He.ga K "op_shr")) := He.glo_ok X G (cd.fact 51 (f := .glo "op_shr") rfl)
  obtain ⟨fd_op_sar, F_op_sar⟩ := cd.def_ 52 (d := d_op_sar) rfl
  have g_op_sar : mg "op_sar" = some (.ref (He.ga K "op_sar")) := He.glo_ok X G (cd.fact 52 (f := .glo "op_sar") rfl)
  obtain ⟨fd_op_rol, F_op_rol⟩ := cd.def_ 53 (d := d_op_rol) rfl
  have g_op_rol : mg "op_rol" = some (.ref (He.ga K "op_rol")) := He.glo_ok X G (cd.fact 53 (f := .glo "op_rol") rfl)
  obtain ⟨fd_op_ror, F_op_ror⟩ := cd.def_ 54 (d := d_op_ror) rfl
  have g_op_ror : mg "op_ror" = some (.ref (He.ga K "op_ror")) := He.glo_ok X G (cd.fact 54 (f := .glo "op_ror") rfl)
  obtain ⟨fd_with_carry_above, F_with_carry_above⟩ := cd.def_ 55 (d := d_with_carry_above) rfl
  have g_with_carry_above : mg "with_carry_above" = some (.ref (He.ga K "with_carry_above")) := He.glo_ok X G (cd.fact 55 (f := .glo "with_carry_above") rfl)
  obtain ⟨fd_op_rcl, F_op_rcl⟩ := cd.def_ 56 (d := d_op_rcl) rfl
  have g_op_rcl : mg "op_rcl" = some (.ref (He.ga K "op_rcl")) := He.glo_ok X G (cd.fact 56 (f := .glo "op_rcl") rfl)
  obtain ⟨fd_op_rcr, F_op_rcr⟩ := cd.def_ 57 (d := d_op_rcr) rfl
  have g_op_rcr : mg "op_rcr" = some (.ref (He.ga K "op_rcr")) := He.glo_ok X G (cd.fact 57 (f := .glo "op_rcr") rfl)
  obtain ⟨fd_double_answer, F_double_answer⟩ := cd.def_ 58 (d := d_double_answer) rfl
  have g_double_answer : mg "double_answer" = some (.ref (He.ga K "double_answer")) := He.glo_ok X G (cd.fact 58 (f := .glo "double_answer") rfl)
  obtain ⟨fd_op_shld, F_op_shld⟩ := cd.def_ 59 (d := d_op_shld) rfl
  have g_op_shld : mg "op_shld" = some (.ref (He.ga K "op_shld")) := He.glo_ok X G (cd.fact 59 (f := .glo "op_shld") rfl)
  obtain ⟨fd_op_shrd, F_op_shrd⟩ := cd.def_ 60 (d := d_op_shrd) rfl
  have g_op_shrd : mg "op_shrd" = some (.ref (He.ga K "op_shrd")) := He.glo_ok X G (cd.fact 60 (f := .glo "op_shrd") rfl)
  obtain ⟨fd_places_to_go, F_places_to_go⟩ := cd.def_ 61 (d := d_places_to_go) rfl
  have g_places_to_go : mg "places_to_go" = some (.ref (He.ga K "places_to_go")) := He.glo_ok X G (cd.fact 61 (f := .glo "places_to_go") rfl)
  obtain ⟨fd_run_shift, F_run_shift⟩ := cd.def_ 62 (d := d_run_shift) rfl
  have g_run_shift : mg "run_shift" = some (.ref (He.ga K "run_shift")) := He.glo_ok X G (cd.fact 62 (f := .glo "run_shift") rfl)
  obtain ⟨fd_total, F_total⟩ := cd.def_ 63 (d := d_total) rfl
  have g_total : mg "total" = some (.ref (He.ga K "total")) := He.glo_ok X G (cd.fact 63 (f := .glo "total") rfl)
  obtain ⟨fd_difference, F_difference⟩ := cd.def_ 64 (d := d_difference) rfl
  have g_difference : mg "difference" = some (.ref (He.ga K "difference")) := He.glo_ok X G (cd.fact 64 (f := .glo "difference") rfl)
  obtain ⟨fd_total_flags, F_total_flags⟩ := cd.def_ 65 (d := d_total_flags) rfl
  have g_total_flags : mg "total_flags" = some (.ref (He.ga K "total_flags")) := He.glo_ok X G (cd.fact 65 (f := .glo "total_flags") rfl)
  obtain ⟨fd_difference_flags, F_difference_flags⟩ := cd.def_ 66 (d := d_difference_flags) rfl
  have g_difference_flags : mg "difference_flags" = some (.ref (He.ga K "difference_flags")) := He.glo_ok X G (cd.fact 66 (f := .glo "difference_flags") rfl)
  obtain ⟨fd_with_carry_of, F_with_carry_of⟩ := cd.def_ 67 (d := d_with_carry_of) rfl
  have g_with_carry_of : mg "with_carry_of" = some (.ref (He.ga K "with_carry_of")) := He.glo_ok X G (cd.fact 67 (f := .glo "with_carry_of") rfl)
  obtain ⟨fd_op_add, F_op_add⟩ := cd.def_ 68 (d := d_op_add) rfl
  have g_op_add : mg "op_add" = some (.ref (He.ga K "op_add")) := He.glo_ok X G (cd.fact 68 (f := .glo "op_add") rfl)
  obtain ⟨fd_op_adc, F_op_adc⟩ := cd.def_ 69 (d := d_op_adc) rfl
  have g_op_adc : mg "op_adc" = some (.ref (He.ga K "op_adc")) := He.glo_ok X G (cd.fact 69 (f := .glo "op_adc") rfl)
  obtain ⟨fd_op_sub, F_op_sub⟩ := cd.def_ 70 (d := d_op_sub) rfl
  have g_op_sub : mg "op_sub" = some (.ref (He.ga K "op_sub")) := He.glo_ok X G (cd.fact 70 (f := .glo "op_sub") rfl)
  obtain ⟨fd_op_sbb, F_op_sbb⟩ := cd.def_ 71 (d := d_op_sbb) rfl
  have g_op_sbb : mg "op_sbb" = some (.ref (He.ga K "op_sbb")) := He.glo_ok X G (cd.fact 71 (f := .glo "op_sbb") rfl)
  obtain ⟨fd_op_cmp, F_op_cmp⟩ := cd.def_ 72 (d := d_op_cmp) rfl
  have g_op_cmp : mg "op_cmp" = some (.ref (He.ga K "op_cmp")) := He.glo_ok X G (cd.fact 72 (f := .glo "op_cmp") rfl)
  obtain ⟨fd_op_neg, F_op_neg⟩ := cd.def_ 73 (d := d_op_neg) rfl
  have g_op_neg : mg "op_neg" = some (.ref (He.ga K "op_neg")) := He.glo_ok X G (cd.fact 73 (f := .glo "op_neg") rfl)
  obtain ⟨fd_op_inc, F_op_inc⟩ := cd.def_ 74 (d := d_op_inc) rfl
  have g_op_inc : mg "op_inc" = some (.ref (He.ga K "op_inc")) := He.glo_ok X G (cd.fact 74 (f := .glo "op_inc") rfl)
  obtain ⟨fd_op_dec, F_op_dec⟩ := cd.def_ 75 (d := d_op_dec) rfl
  have g_op_dec : mg "op_dec" = some (.ref (He.ga K "op_dec")) := He.glo_ok X G (cd.fact 75 (f := .glo "op_dec") rfl)
  obtain ⟨fd_op_xadd, F_op_xadd⟩ := cd.def_ 76 (d := d_op_xadd) rfl
  have g_op_xadd : mg "op_xadd" = some (.ref (He.ga K "op_xadd")) := He.glo_ok X G (cd.fact 76 (f := .glo "op_xadd") rfl)
  obtain ⟨fd_op_cmpxchg, F_op_cmpxchg⟩ := cd.def_ 77 (d := d_op_cmpxchg) rfl
  have g_op_cmpxchg : mg "op_cmpxchg" = some (.ref (He.ga K "op_cmpxchg")) := He.glo_ok X G (cd.fact 77 (f := .glo "op_cmpxchg") rfl)
  obtain ⟨fd_run_sum, F_run_sum⟩ := cd.def_ 78 (d := d_run_sum) rfl
  have g_run_sum : mg "run_sum" = some (.ref (He.ga K "run_sum")) := He.glo_ok X G (cd.fact 78 (f := .glo "run_sum") rfl)
  obtain ⟨fd_widths_of, F_widths_of⟩ := cd.def_ 79 (d := d_widths_of) rfl
  have g_widths_of : mg "widths_of" = some (.ref (He.ga K "widths_of")) := He.glo_ok X G (cd.fact 79 (f := .glo "widths_of") rfl)
  obtain ⟨fd_run, F_run⟩ := cd.def_ 80 (d := d_run) rfl
  have g_run : mg "run" = some (.ref (He.ga K "run")) := He.glo_ok X G (cd.fact 80 (f := .glo "run") rfl)
  obtain ⟨fd_do, F_do⟩ := cd.def_ 81 (d := d_do) rfl
  have g_do : mg "do" = some (.ref (He.ga K "do")) := He.glo_ok X G (cd.fact 81 (f := .glo "do") rfl)
  have g_DECIMAL_STEPS : mg "DECIMAL_STEPS" = some (.ref (He.ga K "DECIMAL_STEPS")) := He.glo_ok X G (cd.fact 82 (f := .glo "DECIMAL_STEPS") rfl)
  have g_PLACE_STEPS : mg "PLACE_STEPS" = some (.ref (He.ga K "PLACE_STEPS")) := He.glo_ok X G (cd.fact 83 (f := .glo "PLACE_STEPS") rfl)
  have g_PRODUCT_STEPS : mg "PRODUCT_STEPS" = some (.ref (He.ga K "PRODUCT_STEPS")) := He.glo_ok X G (cd.fact 84 (f := .glo "PRODUCT_STEPS") rfl)
  have g_SHIFT_STEPS : mg "SHIFT_STEPS" = some (.ref (He.ga K "SHIFT_STEPS")) := He.glo_ok X G (cd.fact 85 (f := .glo "SHIFT_STEPS") rfl)
  have g_SUM_STEPS : mg "SUM_STEPS" = some (.ref (He.ga K "SUM_STEPS")) := He.glo_ok X G (cd.fact 86 (f := .glo "SUM_STEPS") rfl)
  have c_CARRY : Cst mg "CARRY" 1 := He.int_ok X G (cd.fact 87 (f := .int "CARRY" 1) rfl)
  have c_PARITY : Cst mg "PARITY" 4 := He.int_ok X G (cd.fact 88 (f := .int "PARITY" 4) rfl)
  have c_HALF_CARRY : Cst mg "HALF_CARRY" 16 := He.int_ok X G (cd.fact 89 (f := .int "HALF_CARRY" 16) rfl)
  have c_ZERO : Cst mg "ZERO" 64 := He.int_ok X G (cd.fact 90 (f := .int "ZERO" 64) rfl)
  have c_SIGN : Cst mg "SIGN" 128 := He.int_ok X G (cd.fact 91 (f := .int "SIGN" 128) rfl)
  have c_OVERFLOW : Cst mg "OVERFLOW" 2048 := He.int_ok X G (cd.fact 92 (f := .int "OVERFLOW" 2048) rfl)
  have n_abs : mg "abs" = none := He.free_ok X G (cd.fact 93 (f := .free "abs") rfl)
  have n_range : mg "range" = none := He.free_ok X G (cd.fact 94 (f := .free "range") rfl)
  have t_DECIMAL_STEPS : Tab mg K "DECIMAL_STEPS" [(38, "op_daa"), (39, "op_das"), (40, "op_aaa"), (41, "op_aas"), (42, "op_aam"), (43, "op_aad")] := by
    refine tab_ok (t := tb_DECIMAL_STEPS) (List.all_eq_true.mp ct _ (by unfold tbs; simp)) g_DECIMAL_STEPS fun q hq => ?_
    simp only [tb_DECIMAL_STEPS, List.mem_cons, List.not_mem_nil, or_false] at hq
    rcases hq with rfl | rfl | rfl | rfl | rfl | rfl
    · exact g_op_daa
    · exact g_op_das
    · exact g_op_aaa
    · exact g_op_aas
    · exact g_op_aam
    · exact g_op_aad
  have t_PLACE_STEPS : Tab mg K "PLACE_STEPS" [(8, "op_and"), (9, "op_or"), (10, "op_xor"), (11, "op_test"), (12, "op_not"), (26, "op_bt"), (27, "op_bts"), (28, "op_btr"), (29, "op_btc"), (30, "op_bsf"), (31, "op_bsr"), (32, "op_bswap"), (35, "op_clc"), (36, "op_stc"), (37, "op_cmc")] := by
    refine tab_ok (t := tb_PLACE_STEPS) (List.all_eq_true.mp ct _ (by unfold tbs; simp)) g_PLACE_STEPS fun q hq => ?_
    simp only [tb_PLACE_STEPS, List.mem_cons, List.not_mem_nil, or_false] at hq
    rcases hq with rfl | rfl | rfl | rfl | rfl | rfl | rfl | rfl | rfl | rfl | rfl | rfl | rfl | rfl | rfl
    · exact g_op_and
    · exact g_op_or
    · exact g_op_xor
    · exact g_op_test
    · exact g_op_not
    · exact g_op_bt
    · exact g_op_bts
    · exact g_op_btr
    · exact g_op_btc
    · exact g_op_bsf
    · exact g_op_bsr
    · exact g_op_bswap
    · exact g_op_clc
    · exact g_op_stc
    · exact g_op_cmc
  have t_PRODUCT_STEPS : Tab mg K "PRODUCT_STEPS" [(22, "op_mul"), (23, "op_imul"), (24, "op_div"), (25, "op_idiv")] := by
    refine tab_ok (t := tb_PRODUCT_STEPS) (List.all_eq_true.mp ct _ (by unfold tbs; simp)) g_PRODUCT_STEPS fun q hq => ?_
    simp only [tb_PRODUCT_STEPS, List.mem_cons, List.not_mem_nil, or_false] at hq
    rcases hq with rfl | rfl | rfl | rfl
    · exact g_op_mul
    · exact g_op_imul
    · exact g_op_div
    · exact g_op_idiv
  have t_SHIFT_STEPS : Tab mg K "SHIFT_STEPS" [(13, "op_shl"), (14, "op_shr"), (15, "op_sar"), (16, "op_rol"), (17, "op_ror"), (18, "op_rcl"), (19, "op_rcr"), (20, "op_shld"), (21, "op_shrd")] := by
    refine tab_ok (t := tb_SHIFT_STEPS) (List.all_eq_true.mp ct _ (by unfold tbs; simp)) g_SHIFT_STEPS fun q hq => ?_
    simp only [tb_SHIFT_STEPS, List.mem_cons, List.not_mem_nil, or_false] at hq
    rcases hq with rfl | rfl | rfl | rfl | rfl | rfl | rfl | rfl | rfl
    · exact g_op_shl
    · exact g_op_shr
    · exact g_op_sar
    · exact g_op_rol
    · exact g_op_ror
    · exact g_op_rcl
    · exact g_op_rcr
    · exact g_op_shld
    · exact g_op_shrd
  have t_SUM_STEPS : Tab mg K "SUM_STEPS" [(0, "op_add"), (1, "op_adc"), (2, "op_sub"), (3, "op_sbb"), (4, "op_cmp"), (5, "op_neg"), (6, "op_inc"), (7, "op_dec"), (33, "op_xadd"), (34, "op_cmpxchg")] := by
    refine tab_ok (t := tb_SUM_STEPS) (List.all_eq_true.mp ct _ (by unfold tbs; simp)) g_SUM_STEPS fun q hq => ?_
    simp only [tb_SUM_STEPS, List.mem_cons, List.not_mem_nil, or_false] at hq
    rcases hq with rfl | rfl | rfl | rfl | rfl | rfl | rfl | rfl | rfl | rfl
    · exact g_op_add
    · exact g_op_adc
    · exact g_op_sub
    · exact g_op_sbb
    · exact g_op_cmp
    · exact g_op_neg
    · exact g_op_inc
    · exact g_op_dec
    · exact g_op_xadd
    · exact g_op_cmpxchg
  have ef := hf.symm.trans g_do
  cases ef
  refine ⟨fd_do, fun s us hu => FunD.bindsA (ps := ["op", "width", "a", "b", "c", "flags"]) F_do (fun _ _ _ _ _ _ us hl => match us, hl with | [_, _, _, _, _, _], _ => rfl) s us hu, fun base => ?_⟩
  have h_greatest : Has P w K mg base "greatest" 1 sp_greatest := has_greatest F_greatest g_greatest 
  have h_bit : Has P w K mg base "bit" 1 sp_bit := has_bit F_bit g_bit 
  have h_signed : Has P w K mg base "signed" 2 sp_signed := has_signed F_signed g_signed h_bit
  have h_fits_signed : Has P w K mg base "fits_signed" 1 sp_fits_signed := has_fits_signed F_fits_signed g_fits_signed 
  have h_carry_of : Has P w K mg base "carry_of" 1 sp_carry_of := has_carry_of F_carry_of g_carry_of c_CARRY
  have h_put : Has P w K mg base "put" 1 sp_put := has_put F_put g_put 
  have h_is_even_parity : Has P w K mg base "is_even_parity" 2 sp_is_even_parity := has_is_even_parity F_is_even_parity g_is_even_parity h_bit n_range
  have h_show : Has P w K mg base "show" 3 sp_show := has_show F_show g_show h_bit h_put h_is_even_parity c_PARITY c_ZERO c_SIGN
  have h_answer : Has P w K mg base "answer" 1 sp_answer := has_answer F_answer g_answer 
  have h_is_low_digit_off : Has P w K mg base "is_low_digit_off" 1 sp_is_low_digit_off := has_is_low_digit_off F_is_low_digit_off g_is_low_digit_off c_HALF_CARRY
  have h_is_high_digit_off : Has P w K mg base "is_high_digit_off" 2 sp_is_high_digit_off := has_is_high_digit_off F_is_high_digit_off g_is_high_digit_off h_carry_of
  have h_amount_off : Has P w K mg base "amount_off" 1 sp_amount_off := has_amount_off F_amount_off g_amount_off 
  have h_put_half_and_carry : Has P w K mg base "put_half_and_carry" 2 sp_put_half_and_carry := has_put_half_and_carry F_put_half_and_carry g_put_half_and_carry h_put c_CARRY c_HALF_CARRY
  have h_op_daa : Has P w K mg base "op_daa" 4 sp_op_daa := has_op_daa F_op_daa g_op_daa h_show h_answer h_is_low_digit_off h_is_high_digit_off h_amount_off h_put_half_and_carry
  have h_op_das : Has P w K mg base "op_das" 4 sp_op_das := has_op_das F_op_das g_op_das h_show h_answer h_is_low_digit_off h_is_high_digit_off h_amount_off h_put_half_and_carry
  have h_one_digit_answer : Has P w K mg base "one_digit_answer" 3 sp_one_digit_answer := has_one_digit_answer F_one_digit_answer g_one_digit_answer h_answer h_is_low_digit_off h_put_half_and_carry
  have h_op_aaa : Has P w K mg base "op_aaa" 4 sp_op_aaa := has_op_aaa F_op_aaa g_op_aaa h_one_digit_answer
  have h_op_aas : Has P w K mg base "op_aas" 4 sp_op_aas := has_op_aas F_op_aas g_op_aas h_one_digit_answer
  have h_op_aam : Has P w K mg base "op_aam" 4 sp_op_aam := has_op_aam F_op_aam g_op_aam h_show h_answer
  have h_op_aad : Has P w K mg base "op_aad" 4 sp_op_aad := has_op_aad F_op_aad g_op_aad h_show h_answer
  have h_run_decimal : Has P w K mg base "run_decimal" 5 sp_run_decimal := has_run_decimal F_run_decimal g_run_decimal h_op_daa h_op_das h_op_aaa h_op_aas h_op_aam h_op_aad t_DECIMAL_STEPS
  have h_bitwise_flags : Has P w K mg base "bitwise_flags" 4 sp_bitwise_flags := has_bitwise_flags F_bitwise_flags g_bitwise_flags h_put h_show c_CARRY c_OVERFLOW
  have h_op_and : Has P w K mg base "op_and" 5 sp_op_and := has_op_and F_op_and g_op_and h_answer h_bitwise_flags
  have h_op_or : Has P w K mg base "op_or" 5 sp_op_or := has_op_or F_op_or g_op_or h_answer h_bitwise_flags
  have h_op_xor : Has P w K mg base "op_xor" 5 sp_op_xor := has_op_xor F_op_xor g_op_xor h_answer h_bitwise_flags
  have h_op_test : Has P w K mg base "op_test" 5 sp_op_test := has_op_test F_op_test g_op_test h_answer h_bitwise_flags
  have h_op_not : Has P w K mg base "op_not" 2 sp_op_not := has_op_not F_op_not g_op_not h_greatest h_answer
  have h_chosen_bit : Has P w K mg base "chosen_bit" 1 sp_chosen_bit := has_chosen_bit F_chosen_bit g_chosen_bit 
  have h_bit_flags : Has P w K mg base "bit_flags" 2 sp_bit_flags := has_bit_flags F_bit_flags g_bit_flags h_bit h_put c_CARRY
  have h_op_bt : Has P w K mg base "op_bt" 3 sp_op_bt := has_op_bt F_op_bt g_op_bt h_answer h_bit_flags
  have h_op_bts : Has P w K mg base "op_bts" 3 sp_op_bts := has_op_bts F_op_bts g_op_bts h_answer h_chosen_bit h_bit_flags
  have h_op_btr : Has P w K mg base "op_btr" 3 sp_op_btr := has_op_btr F_op_btr g_op_btr h_answer h_chosen_bit h_bit_flags
  have h_op_btc : Has P w K mg base "op_btc" 3 sp_op_btc := has_op_btc F_op_btc g_op_btc h_answer h_chosen_bit h_bit_flags
  have h_op_bsf : Has P w K mg base "op_bsf" 2 sp_op_bsf := has_op_bsf F_op_bsf g_op_bsf h_put h_answer c_ZERO
  have h_op_bsr : Has P w K mg base "op_bsr" 2 sp_op_bsr := has_op_bsr F_op_bsr g_op_bsr h_put h_answer c_ZERO
  have h_op_bswap : Has P w K mg base "op_bswap" 2 sp_op_bswap := has_op_bswap F_op_bswap g_op_bswap h_answer n_range
  have h_op_clc : Has P w K mg base "op_clc" 2 sp_op_clc := has_op_clc F_op_clc g_op_clc h_put h_answer c_CARRY
  have h_op_stc : Has P w K mg base "op_stc" 2 sp_op_stc := has_op_stc F_op_stc g_op_stc h_put h_answer c_CARRY
  have h_op_cmc : Has P w K mg base "op_cmc" 2 sp_op_cmc := has_op_cmc F_op_cmc g_op_cmc h_carry_of h_put h_answer c_CARRY
  have h_run_place : Has P w K mg base "run_place" 6 sp_run_place := has_run_place F_run_place g_run_place h_op_and h_op_or h_op_xor h_op_test h_op_not h_op_bt h_op_bts h_op_btr h_op_btc h_op_bsf h_op_bsr h_op_bswap h_op_clc h_op_stc h_op_cmc t_PLACE_STEPS
  have h_product_answer : Has P w K mg base "product_answer" 2 sp_product_answer := has_product_answer F_product_answer g_product_answer h_greatest h_put h_answer c_CARRY c_OVERFLOW
  have h_op_mul : Has P w K mg base "op_mul" 3 sp_op_mul := has_op_mul F_op_mul g_op_mul h_greatest h_product_answer
  have h_op_imul : Has P w K mg base "op_imul" 3 sp_op_imul := has_op_imul F_op_imul g_op_imul h_signed h_fits_signed h_product_answer
  have h_op_div : Has P w K mg base "op_div" 2 sp_op_div := has_op_div F_op_div g_op_div h_answer
  have h_cut_quotient : Has P w K mg base "cut_quotient" 1 sp_cut_quotient := has_cut_quotient F_cut_quotient g_cut_quotient n_abs
  have h_op_idiv : Has P w K mg base "op_idiv" 3 sp_op_idiv := has_op_idiv F_op_idiv g_op_idiv h_greatest h_signed h_fits_signed h_answer h_cut_quotient
  have h_run_product : Has P w K mg base "run_product" 4 sp_run_product := has_run_product F_run_product g_run_product h_op_mul h_op_imul h_op_div h_op_idiv t_PRODUCT_STEPS
  have h_turned_left : Has P w K mg base "turned_left" 2 sp_turned_left := has_turned_left F_turned_left g_turned_left h_greatest
  have h_turned_right : Has P w K mg base "turned_right" 3 sp_turned_right := has_turned_right F_turned_right g_turned_right h_turned_left
  have h_is_top_not_carry : Has P w K mg base "is_top_not_carry" 2 sp_is_top_not_carry := has_is_top_not_carry F_is_top_not_carry g_is_top_not_carry h_bit h_carry_of
  have h_op_shl : Has P w K mg base "op_shl" 4 sp_op_shl := has_op_shl F_op_shl g_op_shl h_greatest h_bit h_put h_show h_answer h_is_top_not_carry c_CARRY c_OVERFLOW
  have h_op_shr : Has P w K mg base "op_shr" 4 sp_op_shr := has_op_shr F_op_shr g_op_shr h_bit h_put h_show h_answer c_CARRY c_OVERFLOW
  have h_op_sar : Has P w K mg base "op_sar" 4 sp_op_sar := has_op_sar F_op_sar g_op_sar h_greatest h_bit h_signed h_put h_show h_answer c_CARRY c_OVERFLOW
  have h_op_rol : Has P w K mg base "op_rol" 3 sp_op_rol := has_op_rol F_op_rol g_op_rol h_bit h_put h_answer h_turned_left h_is_top_not_carry c_CARRY c_OVERFLOW
  have h_op_ror : Has P w K mg base "op_ror" 4 sp_op_ror := has_op_ror F_op_ror g_op_ror h_bit h_put h_answer h_turned_right c_CARRY c_OVERFLOW
  have h_with_carry_above : Has P w K mg base "with_carry_above" 2 sp_with_carry_above := has_with_carry_above F_with_carry_above g_with_carry_above h_carry_of
  have h_op_rcl : Has P w K mg base "op_rcl" 3 sp_op_rcl := has_op_rcl F_op_rcl g_op_rcl h_greatest h_bit h_put h_answer h_turned_left h_is_top_not_carry h_with_carry_above c_CARRY c_OVERFLOW
  have h_op_rcr : Has P w K mg base "op_rcr" 4 sp_op_rcr := has_op_rcr F_op_rcr g_op_rcr h_greatest h_bit h_put h_answer h_turned_right h_is_top_not_carry h_with_carry_above c_CARRY c_OVERFLOW
  have h_double_answer : Has P w K mg base "double_answer" 4 sp_double_answer := has_double_answer F_double_answer g_double_answer h_bit h_put h_show h_answer c_CARRY c_OVERFLOW
  have h_op_shld : Has P w K mg base "op_shld" 5 sp_op_shld := has_op_shld F_op_shld g_op_shld h_greatest h_bit h_double_answer
  have h_op_shrd : Has P w K mg base "op_shrd" 5 sp_op_shrd := has_op_shrd F_op_shrd g_op_shrd h_greatest h_bit h_double_answer
  have h_places_to_go : Has P w K mg base "places_to_go" 1 sp_places_to_go := has_places_to_go F_places_to_go g_places_to_go 
  have h_run_shift : Has P w K mg base "run_shift" 6 sp_run_shift := has_run_shift F_run_shift g_run_shift h_answer h_places_to_go h_op_shl h_op_shr h_op_sar h_op_rol h_op_ror h_op_rcl h_op_rcr h_op_shld h_op_shrd t_SHIFT_STEPS
  have h_total : Has P w K mg base "total" 2 sp_total := has_total F_total g_total h_greatest
  have h_difference : Has P w K mg base "difference" 2 sp_difference := has_difference F_difference g_difference h_greatest
  have h_total_flags : Has P w K mg base "total_flags" 4 sp_total_flags := has_total_flags F_total_flags g_total_flags h_greatest h_signed h_put h_show h_total c_CARRY c_HALF_CARRY c_OVERFLOW
  have h_difference_flags : Has P w K mg base "difference_flags" 4 sp_difference_flags := has_difference_flags F_difference_flags g_difference_flags h_signed h_put h_show h_difference c_CARRY c_HALF_CARRY c_OVERFLOW
  have h_with_carry_of : Has P w K mg base "with_carry_of" 2 sp_with_carry_of := has_with_carry_of F_with_carry_of g_with_carry_of h_carry_of h_put c_CARRY
  have h_op_add : Has P w K mg base "op_add" 5 sp_op_add := has_op_add F_op_add g_op_add h_answer h_total h_total_flags
  have h_op_adc : Has P w K mg base "op_adc" 5 sp_op_adc := has_op_adc F_op_adc g_op_adc h_carry_of h_answer h_total h_total_flags
  have h_op_sub : Has P w K mg base "op_sub" 5 sp_op_sub := has_op_sub F_op_sub g_op_sub h_answer h_difference h_difference_flags
  have h_op_sbb : Has P w K mg base "op_sbb" 5 sp_op_sbb := has_op_sbb F_op_sbb g_op_sbb h_carry_of h_answer h_difference h_difference_flags
  have h_op_cmp : Has P w K mg base "op_cmp" 5 sp_op_cmp := has_op_cmp F_op_cmp g_op_cmp h_answer h_difference_flags
  have h_op_neg : Has P w K mg base "op_neg" 5 sp_op_neg := has_op_neg F_op_neg g_op_neg h_answer h_difference h_difference_flags
  have h_op_inc : Has P w K mg base "op_inc" 5 sp_op_inc := has_op_inc F_op_inc g_op_inc h_answer h_total h_total_flags h_with_carry_of
  have h_op_dec : Has P w K mg base "op_dec" 5 sp_op_dec := has_op_dec F_op_dec g_op_dec h_answer h_difference h_difference_flags h_with_carry_of
  have h_op_xadd : Has P w K mg base "op_xadd" 5 sp_op_xadd := has_op_xadd F_op_xadd g_op_xadd h_answer h_total h_total_flags
  have h_op_cmpxchg : Has P w K mg base "op_cmpxchg" 5 sp_op_cmpxchg := has_op_cmpxchg F_op_cmpxchg g_op_cmpxchg h_answer h_difference_flags
  have h_run_sum : Has P w K mg base "run_sum" 6 sp_run_sum := has_run_sum F_run_sum g_run_sum h_op_add h_op_adc h_op_sub h_op_sbb h_op_cmp h_op_neg h_op_inc h_op_dec h_op_xadd h_op_cmpxchg t_SUM_STEPS
  have h_widths_of : Has P w K mg base "widths_of" 1 sp_widths_of := has_widths_of F_widths_of g_widths_of 
  have h_run : Has P w K mg base "run" 7 sp_run := has_run F_run g_run h_run_decimal h_run_place h_run_product h_run_shift h_run_sum
  exact ok_do F_do h_greatest h_widths_of h_run
end My
open PySem PySem.W PySem.Calls PyProof.Rows
theorem PySem.Challenge.cw_flagwork_s01_do_holds : PySem.Challenge.rw_flagwork_s01_do.Holds := by
  w_on
  refine HandSHeadRun.head_spec (r := PySem.Challenge.rw_flagwork_s01_do) (q := view PySem.Challenge.rw_flagwork_s01_do.prog [99]) (H := My.hk) (ob := My.ob) (M := 20000) (loose := My.los) (d := HandSHeadRun.topDef PySem.Challenge.rw_flagwork_s01_do.prog 99) (kwd := []) My.ob_eq
    (by kernel_rfl) (fun s => by kernel_rfl) My.run (by kernel_rfl) (by kernel_rfl) (by kernel_rfl) os_shapes (by decide +kernel) (by decide +kernel) ⟨rfl, rfl, rfl, rfl, rfl, by decide +kernel⟩ ?hw ?hc
  case hw => exact ⟨[.int 0, .int 8, .int 0, .int 0, .int 0, .int 0], by decide +kernel, by decide +kernel⟩
  case hc =>
    refine My.walk_here (r := PySem.Challenge.rw_flagwork_s01_do) (k := 8) (ps := ["op", "width", "a", "b", "c", "flags"]) (sp := My.sp_do) (by decide +kernel) rfl ⟨rfl, by decide, by decide⟩ ?F ?S
    case F =>
      intro w mg fa h Y G hmg0
      obtain ⟨K, KX, c⟩ := Y
      have hmg : mg ("do" : PySem.Str) = some (.ref fa) := by
        have e : (HandSHeadRun.topDef PySem.Challenge.rw_flagwork_s01_do.prog 99).name = ("do" : PySem.Str) := by kernel_rfl
        rw [← e]
        exact hmg0
      obtain ⟨fd, hb, hF⟩ := My.facts (P := PySem.Challenge.rw_flagwork_s01_do.prog) (w := w) KX G hmg c
      exact ⟨K, fd, KX, hb, hF⟩
    case S =>
      intro K H xs a hwi hx
      obtain ⟨op, width, a1, b1, c1, flags, u⟩ := a
      cases hx with | cons h1 hx => cases hx with | cons h2 hx => cases hx with | cons h3 hx => cases hx with | cons h4 hx => cases hx with | cons h5 hx => cases hx with | cons h6 hx =>
        cases hx
        cases h1
        cases h2
        cases h3
        cases h4
        cases h5
        cases h6
        have hq : (Codec.inInt 0 255 op && (Codec.inInt 0 255 width && (Codec.inInt 0 18446744073709551615 a1 && (Codec.inInt 0 18446744073709551615 b1 && (Codec.inInt 0 18446744073709551615 c1 && (Codec.inInt 0 4294967295 flags && true)))))) = true := hwi
        simp only [Codec.inInt, Bool.and_eq_true, decide_eq_true_eq] at hq
        refine ⟨op, width, a1, b1, c1, flags, rfl, by omega, fun p H2 _ _ hp => ?_⟩
        rw [My.mirror_is (by omega) (by omega) (by omega) (by omega) (by omega) (by omega)] at hp
        exact .lst (L2.SqL.of hp) (L2.dw_ints _)

