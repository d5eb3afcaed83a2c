import PyProof.Rows.All
import Wide.All
import OpenK.AllK
import Wide.FinOn
import HandS.Base
import HandS.Call
import HandS.List
import HandS.Comp
import HandS.Ends
import HandS.Words
import HandS.Defaults
import HandS.Evl
import HandS.Wide
import HandS.Iter
import HandS.WideBits
import HandS.Spec
import HandS.CallLocal
import KE.KBits
import KE.BitLaws
import KE.KStateDown
import HandS.Head0
import HandS.Head1
import HandS.Head2
import HandS.Head3
import HandS.Head4
import HandS.HeadHook1
import HandS.HeadHook2
import KE.OsGo
import KE.OsHead
import PySem.Challenge.RW_flagwork_s04_unbyte
set_option Elab.async false
set_option linter.all false
set_option maxRecDepth 100000
set_option maxHeartbeats 8000000
namespace My
open PySem
def m_unbyte (flags : Int) (b : Int) : List Int :=
  [(Builtin.bitOr (Builtin.bitAnd flags (Builtin.bitNot (213 : Int))) (Builtin.bitAnd b (213 : Int)))]
end My

/-! ### One judgement for both: that the text has a reading, and what the reading comes to -/
namespace My
open PySem PyProof.Rows L2 Evl

def CE (X : Cx) (e : Expr) (σ : L2.St) (H : Hp) (v : V) : Prop := ∃ t, PE X e t ∧ Ev t σ H v
def CT (X : Cx) (e : Expr) (σ : L2.St) (H : Hp) (b : Bool) : Prop := ∃ t, PT X e t ∧ EvT t σ H b
def CW (X : Cx) (e : Expr) (σ : L2.St) (H : Hp) (b : Bool) : Prop := ∃ t, PW X e t ∧ EvT t σ H b
def CA (X : Cx) (es : List Expr) (σ : L2.St) (H : Hp) (vs : List V) : Prop := ∃ t, PA X es t ∧ EvA t σ H vs
def CL (X : Cx) (e : Expr) (σ : L2.St) (H : Hp) (xs : List V) : Prop := ∃ t, PE X e t ∧ EvL t σ H xs
def CU (X : Cx) (e : Expr) (σ : L2.St) (H : Hp) (xs : List V) : Prop := ∃ t, PE X e t ∧ EvU t σ H xs
/-- a block that ends by a return of what Q wants -/
def CR (X : Cx) (b : List Stmt) (σ : L2.St) (H : Hp) (Q : VK) : Prop := ∃ t, PSs X b t ∧ ∀ H1, Ex H H1 → ∀ D : Ends, D.rt = Q → t D σ H1
/-- a def of the module as its callers see it -/
def Has (P : Program) (w : World) (K : PySem.W.Frag) (mg : Str → Option Value) (base : Heap) (x : Str) (k : Nat) (sp : Sp) : Prop :=
  ∃ (f : Addr) (fd : FuncData) (ps : List Str), FnOk P w K mg base CX0 k f fd ps sp ∧ mg x = some (.ref f) ∧ PySem.W.keepIn K (.ref f) = true ∧ Binds K fd ps []
/-- a constant of the module -/
def Cst (mg : Str → Option Value) (x : Str) (i : Int) : Prop := ∃ t, mg x = some (.int i t)
def RetU (xs : List V) (H : Hp) (Q : VK) : Prop := ∀ p H2, H p = none → Ex H H2 → H2 p = some (.tup xs) → Q (.ref p) H2
def SpU (sp : Sp) (vs : List V) (H : Hp) (xs : List V) : Prop := ∀ H1, Ex H H1 → ∀ Q : VK, RetU xs H1 Q → ∀ E : XK, sp vs H1 Q E

section
variable {X : Cx} {σ : L2.St} {H : Hp} {a b c e : Expr} {pos : Pos} {i j : Int} {u v x y z : V} {es : List Expr} {vs : List V} {p q r : Bool} {Q : VK}

theorem ce_v {x : Str} (n : Nat) (h : PE X (.Name x pos) (tVar n)) (hv : σ[n]? = some (some v)) : CE X (.Name x pos) σ H v := ⟨_, h, ev_var hv⟩
theorem ce_i {n : Nat} : CE X (.Constant (.int i) n pos) σ H (.int i) := ⟨_, pe_int, ev_c⟩
theorem ce_b {n : Nat} : CE X (.Constant (.bool p) n pos) σ H (.bl p) := ⟨_, pe_bl, ev_c⟩
theorem ce_g {x : Str} (h : Cst X.mg x i) (hg : Gl X x) (hd : (x == ("__debug__" : Str)) = false) : CE X (.Name x pos) σ H (.int i) := by
  obtain ⟨t, ht⟩ := h
  exact ⟨_, pe_glob (v := .int i) hg ht ⟨t, rfl⟩ hd, ev_c⟩
theorem ce_op {op : Operator} {r : R2} (ho : OpR X (binaryOp op) r) (ha : CE X a σ H x) (hb : CE X b σ H y) (hr : RV r x y H z) : CE X (.BinOp a op b pos) σ H z := by
  obtain ⟨ta, pa, ea⟩ := ha
  obtain ⟨tb, pb, eb⟩ := hb
  exact ⟨_, pe_op ho pa pb, ev_op ea eb hr⟩
theorem ce_add (ha : CE X a σ H (.int i)) (hb : CE X b σ H (.int j)) : CE X (.BinOp a .Add b pos) σ H (.int (i + j)) := ce_op op_add ha hb rv_I0
theorem ce_sub (ha : CE X a σ H (.int i)) (hb : CE X b σ H (.int j)) : CE X (.BinOp a .Sub b pos) σ H (.int (i - j)) := ce_op op_sub ha hb rv_I0
theorem ce_and (ha : CE X a σ H (.int i)) (hb : CE X b σ H (.int j)) : CE X (.BinOp a .BitAnd b pos) σ H (.int (Builtin.bitAnd i j)) := ce_op op_and ha hb rv_I0
theorem ce_or (ha : CE X a σ H (.int i)) (hb : CE X b σ H (.int j)) : CE X (.BinOp a .BitOr b pos) σ H (.int (Builtin.bitOr i j)) := ce_op op_or ha hb rv_I0
theorem ce_xor (ha : CE X a σ H (.int i)) (hb : CE X b σ H (.int j)) : CE X (.BinOp a .BitXor b pos) σ H (.int (Builtin.bitXor i j)) := ce_op op_xor ha hb rv_I0
theorem ce_mul (ha : CE X a σ H (.int i)) (hb : CE X b σ H (.int j)) (hc : CMulW i j) : CE X (.BinOp a .Mult b pos) σ H (.int (i * j)) := ce_op op_mulW ha hb (rv_I hc)
theorem ce_div (ha : CE X a σ H (.int i)) (hb : CE X b σ H (.int j)) (hc : CDivW i j) : CE X (.BinOp a .FloorDiv b pos) σ H (.int (i / j)) := ce_op op_fdivW ha hb (rv_I hc)
theorem ce_mod (ha : CE X a σ H (.int i)) (hb : CE X b σ H (.int j)) (hc : 0 < j) : CE X (.BinOp a .Mod b pos) σ H (.int (i % j)) := ce_op op_mod ha hb (rv_I hc)
theorem ce_shl (ha : CE X a σ H (.int i)) (hb : CE X b σ H (.int j)) (hc : CShl i j) : CE X (.BinOp a .LShift b pos) σ H (.int (i * 2 ^ j.toNat)) := ce_op op_shlW ha hb (rv_I hc)
theorem ce_shr (ha : CE X a σ H (.int i)) (hb : CE X b σ H (.int j)) (hc : 0 ≤ j) : CE X (.BinOp a .RShift b pos) σ H (.int (i / 2 ^ j.toNat)) := ce_op op_shr ha hb (rv_I hc)
theorem ce_neg (ha : CE X a σ H (.int i)) : CE X (.UnaryOp .USub a pos) σ H (.int (-i)) := by
  obtain ⟨ta, pa, ea⟩ := ha
  exact ⟨_, pe_un un_neg pa, ev_un ea ru_neg⟩
theorem ce_inv (ha : CE X a σ H (.int i)) : CE X (.UnaryOp .Invert a pos) σ H (.int (Builtin.bitNot i)) := by
  obtain ⟨ta, pa, ea⟩ := ha
  exact ⟨_, pe_un un_inv pa, ev_un ea fun H1 _ _ q => ⟨i, rfl, q H1 (Ex.refl H1)⟩⟩
theorem ce_not (ha : CE X a σ H (.bl p)) : CE X (.UnaryOp .Not a pos) σ H (.bl (!p)) := by
  obtain ⟨ta, pa, ea⟩ := ha
  exact ⟨_, pe_not pa, ev_notV ea⟩
/-! comparisons -/
theorem rv_ieq : RV rEq (.int i) (.int j) H (.bl (decide (i = j))) := fun H1 e Q q => by
  refine rv_eq (H := H) rfl H1 e Q fun H2 e2 => ?_
  have h : decide (V.int i = V.int j) = decide (i = j) := by simp
  rw [h]
  exact q H2 e2
theorem rv_ine : RV rNe (.int i) (.int j) H (.bl (!decide (i = j))) := fun H1 e Q q => by
  refine rv_ne (H := H) rfl H1 e Q fun H2 e2 => ?_
  have h : decide (V.int i = V.int j) = decide (i = j) := by simp
  rw [h]
  exact q H2 e2
theorem rv_bne : RV rNe (.bl p) (.bl q) H (.bl (p != q)) := fun H1 e Q k => by
  refine rv_ne (H := H) rfl H1 e Q fun H2 e2 => ?_
  have h : (!decide (V.bl p = V.bl q)) = (p != q) := by
    cases p <;> cases q <;> decide
  rw [h]
  exact k H2 e2
theorem ce_cmp {op : CmpOp} {r : R2} (ho : OpR X (compareOp op) r) (ha : CE X a σ H x) (hb : CE X b σ H y) (hr : RV r x y H z) (hm : behindInMarks op b = false) : CE X (.Compare a [op] [b] pos) σ H z := by
  obtain ⟨ta, pa, ea⟩ := ha
  obtain ⟨tb, pb, eb⟩ := hb
  exact ⟨_, pe_cmpR ho pa pb hm, ev_op ea eb hr⟩
theorem ct_cmp {op : CmpOp} {r : R2} (ho : OpR X (compareOp op) r) (ha : CE X a σ H x) (hb : CE X b σ H y) (hr : RV r x y H (.bl p)) (hm : behindInMarks op b = false) : CT X (.Compare a [op] [b] pos) σ H p := by
  obtain ⟨ta, pa, ea⟩ := ha
  obtain ⟨tb, pb, eb⟩ := hb
  exact ⟨_, pt_cmpR ho pa pb hm, et_test (ev_op ea eb hr)⟩
theorem ev_chain {r r' : R2} {ta tb tc : TE} (ea : Ev ta σ H x) (eb : Ev tb σ H y) (ec : Ev tc σ H z) (hr : RV r x y H (.bl p)) (hr' : RV r' y z H (.bl q)) : Ev (tChain r r' ta tb tc) σ H (.bl (p && q)) := by
  intro H1 e Q k
  refine ea H1 e _ fun H2 e2 => eb H2 (e.trans e2) _ fun H3 e3 => hr H3 ((e.trans e2).trans e3) _ fun H4 e4 => ⟨p, rfl, ?_⟩
  cases p with
  | true =>
    show tc σ H4 _
    exact ec H4 (((e.trans e2).trans e3).trans e4) _ fun H5 e5 => hr' H5 ((((e.trans e2).trans e3).trans e4).trans e5) Q fun H6 e6 => k H6 ((((e2.trans e3).trans e4).trans e5).trans e6)
  | false =>
    show Q (.bl false) H4
    exact k H4 ((e2.trans e3).trans e4)
theorem ce_chain {op op' : CmpOp} {r r' : R2} (ho : OpR X (compareOp op) r) (ho' : OpR X (compareOp op') r') (ha : CE X a σ H x) (hb : CE X b σ H y) (hc : CE X c σ H z) (hr : RV r x y H (.bl p)) (hr' : RV r' y z H (.bl q))
    (hm : lastMarks [op, op'] [b, c] = false := by with_unfolding_all rfl) : CE X (.Compare a [op, op'] [b, c] pos) σ H (.bl (p && q)) := by
  obtain ⟨ta, pa, ea⟩ := ha
  obtain ⟨tb, pb, eb⟩ := hb
  obtain ⟨tc, pc, ec⟩ := hc
  exact ⟨_, pe_chain ho ho' pa pb pc hm, ev_chain ea eb ec hr hr'⟩
theorem ct_chain {op op' : CmpOp} {r r' : R2} (ho : OpR X (compareOp op) r) (ho' : OpR X (compareOp op') r') (ha : CE X a σ H x) (hb : CE X b σ H y) (hc : CE X c σ H z) (hr : RV r x y H (.bl p)) (hr' : RV r' y z H (.bl q))
    (hm : lastMarks [op, op'] [b, c] = false := by with_unfolding_all rfl) : CT X (.Compare a [op, op'] [b, c] pos) σ H (p && q) := by
  obtain ⟨ta, pa, ea⟩ := ha
  obtain ⟨tb, pb, eb⟩ := hb
  obtain ⟨tc, pc, ec⟩ := hc
  exact ⟨_, pt_chain ho ho' pa pb pc hm, et_test (ev_chain ea eb ec hr hr')⟩
/-! tests, and, or, if-else -/
theorem ct_val (h : CE X a σ H (.bl p)) (he : ∀ whole, isTrue a X.env whole = (do let v ← whole; standAt a.pos; holding [v] (truthy v)) := by intro _; rfl) : CT X a σ H p := by
  obtain ⟨ta, pa, ea⟩ := h
  exact ⟨_, pt_val pa he, et_B ea⟩
theorem ct_not (h : CT X a σ H p) : CT X (.UnaryOp .Not a pos) σ H (!p) := by
  obtain ⟨ta, pa, ea⟩ := h
  exact ⟨_, pt_not pa, et_not ea⟩
theorem ct_or (ha : CT X a σ H p) (hb : CT X b σ H q) : CT X (.BoolOp .Or [a, b] pos) σ H (p || q) := by
  obtain ⟨ta, pa, ea⟩ := ha
  obtain ⟨tb, pb, eb⟩ := hb
  exact ⟨_, (pw_or pa (pw_or1 pb)).pt, et_or ea fun _ => eb⟩
theorem ct_and (ha : CT X a σ H p) (hb : CT X b σ H q) : CT X (.BoolOp .And [a, b] pos) σ H (p && q) := by
  obtain ⟨ta, pa, ea⟩ := ha
  obtain ⟨tb, pb, eb⟩ := hb
  exact ⟨_, (pw_and pa (pw_and1 pb)).pt, et_and ea fun _ => eb⟩
theorem ce_bor (ha : CE X a σ H (.bl p)) (hb : CE X b σ H (.bl q)) : CE X (.BoolOp .Or [a, b] pos) σ H (.bl (p || q)) := by
  obtain ⟨ta, pa, ea⟩ := ha
  obtain ⟨tb, pb, eb⟩ := hb
  exact ⟨_, pe_or pa (pe_one pb), ev_orV ea fun _ => eb⟩
theorem ce_band (ha : CE X a σ H (.bl p)) (hb : CE X b σ H (.bl q)) : CE X (.BoolOp .And [a, b] pos) σ H (.bl (p && q)) := by
  obtain ⟨ta, pa, ea⟩ := ha
  obtain ⟨tb, pb, eb⟩ := hb
  exact ⟨_, pe_and pa (pe_one pb), ev_andV ea fun _ => eb⟩
theorem ce_if (hc : CT X c σ H p) (ha : CE X a σ H (.int i)) (hb : CE X b σ H (.int j)) : CE X (.IfExp c a b pos) σ H (.int (if p = true then i else j)) := by
  obtain ⟨tc, pc, ec⟩ := hc
  obtain ⟨ta, pa, ea⟩ := ha
  obtain ⟨tb, pb, eb⟩ := hb
  refine ⟨_, pe_ifExp pc pa pb, ev_if ec (fun h => ?_) (fun h => ?_)⟩
  · rw [if_pos h]
    exact ea
  · rw [if_neg (by rw [h]; exact Bool.false_ne_true)]
    exact eb
/-! arguments, calls -/
theorem ca_0 : CA X [] σ H [] := ⟨_, pa_nil, ea_nil⟩
theorem ca_1 (h : CE X e σ H v) (hr : CA X es σ H vs) (hs : starEach (e :: es) X.env = (false, eval e X.env) :: starEach es X.env := by rfl) : CA X (e :: es) σ H (v :: vs) := by
  obtain ⟨t, p, k⟩ := h
  obtain ⟨t2, p2, k2⟩ := hr
  exact ⟨_, pa_cons p p2 hs, ea_cons k k2⟩
theorem ce_call {k : Nat} {x : Str} {sp : Sp} {xp : Pos} (F : Has X.prog X.w X.K X.mg X.base x k sp) (hr : Room k X.A) (hg : Gl X x) (ha : CA X (e :: es) σ H vs) (hs : SpV sp vs H z) (hdb : (x == ("__debug__" : Str)) = false)
    (he : starEach (e :: es) X.env = (false, eval e X.env) :: starEach es X.env := by rfl) (hpl : (backTo pos (starEach es X.env)).any (·.1) = false := by rfl) : CE X (.Call (.Name x xp) (e :: es) [] pos) σ H z := by
  obtain ⟨f, fd, ps, G, gm, kp, bd⟩ := F
  obtain ⟨t, pa, ea⟩ := ha
  refine ⟨_, pe_call G hr hg gm kp bd .nil pass0 pa hdb he hpl, ev_call ea ?_⟩
  rw [List.append_nil]
  exact hs
theorem cl_call {k : Nat} {x : Str} {sp : Sp} {xp : Pos} {xs : List V} (F : Has X.prog X.w X.K X.mg X.base x k sp) (hr : Room k X.A) (hg : Gl X x) (ha : CA X (e :: es) σ H vs) (hs : SpL sp vs H xs) (hdb : (x == ("__debug__" : Str)) = false)
    (he : starEach (e :: es) X.env = (false, eval e X.env) :: starEach es X.env := by rfl) (hpl : (backTo pos (starEach es X.env)).any (·.1) = false := by rfl) : CL X (.Call (.Name x xp) (e :: es) [] pos) σ H xs := by
  obtain ⟨f, fd, ps, G, gm, kp, bd⟩ := F
  obtain ⟨t, pa, ea⟩ := ha
  refine ⟨_, pe_call G hr hg gm kp bd .nil pass0 pa hdb he hpl, el_call ea ?_⟩
  rw [List.append_nil]
  exact hs
theorem cu_call {k : Nat} {x : Str} {sp : Sp} {xp : Pos} {xs : List V} (F : Has X.prog X.w X.K X.mg X.base x k sp) (hr : Room k X.A) (hg : Gl X x) (ha : CA X (e :: es) σ H vs) (hs : SpU sp vs H xs) (hdb : (x == ("__debug__" : Str)) = false)
    (he : starEach (e :: es) X.env = (false, eval e X.env) :: starEach es X.env := by rfl) (hpl : (backTo pos (starEach es X.env)).any (·.1) = false := by rfl) : CU X (.Call (.Name x xp) (e :: es) [] pos) σ H xs := by
  obtain ⟨f, fd, ps, G, gm, kp, bd⟩ := F
  obtain ⟨t, pa, ea⟩ := ha
  refine ⟨_, pe_call G hr hg gm kp bd .nil pass0 pa hdb he hpl, fun H1 e1 Q q => ea H1 e1 _ fun H2 e2 => ?_⟩
  rw [List.append_nil]
  exact hs H2 (e1.trans e2) Q (fun p H3 hp e3 h3 => q p H3 (fresh_back e2 hp) (e2.trans e3) h3) _
theorem cl_lst (ha : CA X es σ H vs) (hl : vs.length ≤ 100000) : CL X (.List es pos) σ H vs := by
  obtain ⟨t, pa, ea⟩ := ha
  exact ⟨_, pe_lst pa, el_lst ea hl⟩
theorem cu_tup {n : Nat} (ha : CA X es σ H vs) (hl : vs.length ≤ 100000) : CU X (.Tuple es n pos) σ H vs := by
  obtain ⟨t, pa, ea⟩ := ha
  exact ⟨_, pe_tup pa, eu_tup ea hl⟩
theorem ce_abs {ap : Pos} (hm : X.mg "abs" = none) (hg : Gl X "abs") (ha : CA X (e :: es) σ H [.int i])
    (he : starEach (e :: es) X.env = (false, eval e X.env) :: starEach es X.env := by rfl) (hpl : (backTo pos (starEach es X.env)).any (·.1) = false := by rfl) : CE X (.Call (.Name "abs" ap) (e :: es) [] pos) σ H (.int (if i < 0 then -i else i)) := by
  obtain ⟨t, pa, ea⟩ := ha
  exact ⟨_, pe_callB call_abs hg hm boot_abs pa (by decide) (by decide) he hpl, ev_cb ea fun H1 _ _ q => ⟨i, rfl, q H1 (Ex.refl H1)⟩⟩
theorem ce_bits {ap : Pos} (ha : CE X a σ H (.int i)) (hbase : attributeBase a "bit_length" X.env (eval a X.env) = eval a X.env := by rfl) (hline : (ap.endLine == pos.line) = true := by rfl) :
    CE X (.Call (.Attribute a "bit_length" ap) [] [] pos) σ H (.int (Builtin.Int.intBits i : Nat)) := by
  obtain ⟨t, pa, ea⟩ := ha
  exact ⟨_, pe_bits pa hbase hline, fun H1 e1 Q q => ea H1 e1 _ fun H2 e2 => ⟨i, rfl, q H2 e2⟩⟩
/-- x not in a new tuple -/
theorem ct_niU {xs : List V} (ha : CE X a σ H x) (hb : CU X b σ H xs) (hx : flatV x = true) (hf : xs.all flatV = true) (hm : behindInMarks .NotIn b = false := by rfl) : CT X (.Compare a [.NotIn] [b] pos) σ H (!inV x xs) := by
  obtain ⟨ta, pa, ea⟩ := ha
  obtain ⟨tb, pb, eb⟩ := hb
  exact ⟨_, pt_cmpR op_notIn_seq pa pb hm, et_test (ev_niU ea eb hx hf)⟩
/-! statements -/
variable {st : Stmt} {body rest : List Stmt}
theorem cr_set {x : Str} {n : Nat} {p1 p2 : Pos} (he : CE X e σ H v) (hps : ∀ t, PE X e t → PS X (.Assign [.Name x p1] e p2) (tAsg t (gName n)))
    (k : CR X rest (σ.set n (some v)) H Q) : CR X (.Assign [.Name x p1] e p2 :: rest) σ H Q := by
  obtain ⟨t, pt, et⟩ := he
  obtain ⟨u, pu, eu⟩ := k
  exact ⟨_, pss_cons (hps t pt) pu, fun H1 e1 D hD => q_asg (et.mono e1) fun H2 e2 => eu H2 (e1.trans e2) D hD⟩
theorem cr_ret (he : CE X e σ H v) (hq : RetV v H Q) : CR X [.Return (some e) pos] σ H Q := by
  obtain ⟨t, pt, et⟩ := he
  refine ⟨_, pss_one (ps_ret pt), fun H1 e1 D hD => s_ret (et.mono e1) fun H2 e2 => ?_⟩
  rw [hD]
  exact hq H2 (e1.trans e2)
theorem cr_retL {xs : List V} (he : CL X e σ H xs) (hq : RetL xs H Q) : CR X [.Return (some e) pos] σ H Q := by
  obtain ⟨t, pt, et⟩ := he
  refine ⟨_, pss_one (ps_ret pt), fun H1 e1 D hD => s_retL (et.mono e1) fun p H2 hp e2 h2 => ?_⟩
  rw [hD]
  exact hq p H2 (fresh_back e1 hp) (e1.trans e2) h2
theorem cr_retU {xs : List V} (he : CU X e σ H xs) (hq : RetU xs H Q) : CR X [.Return (some e) pos] σ H Q := by
  obtain ⟨t, pt, et⟩ := he
  refine ⟨_, pss_one (ps_ret pt), fun H1 e1 D hD => et H1 e1 _ fun p H2 hp e2 h2 => ?_⟩
  rw [hD]
  exact hq p H2 (fresh_back e1 hp) (e1.trans e2) h2
/-- an if that returns; whichever way isn't gone needs no reading -/
theorem cr_if {rest : List Stmt} (hc : CT X c σ H p) (h1 : p = true → CR X body σ H Q) (h2 : p = false → CR X rest σ H Q) : CR X (.If c body [] pos :: rest) σ H Q := by
  obtain ⟨tc, pc, ec⟩ := hc
  cases p with
  | true =>
    obtain ⟨t, pt, kt⟩ := h1 rfl
    refine ⟨_, pss_cons (ps_if pc pt pss_nil) pss_never, fun H1 e1 D hD => q_when (ec.mono e1) (fun _ H2 e2 => kt H2 (e1.trans e2) _ hD) fun z => Bool.noConfusion z⟩
  | false =>
    obtain ⟨t, pt, kt⟩ := h2 rfl
    refine ⟨_, pss_cons (ps_if pc pss_never pss_nil) pt, fun H1 e1 D hD => q_when (ec.mono e1) (fun z => Bool.noConfusion z) fun _ H2 e2 => kt H2 (e1.trans e2) _ hD⟩
/-- an if that gives a name another number -/
theorem cr_ifset {x : Str} {n : Nat} {p1 p2 : Pos} {rest : List Stmt} (hc : CT X c σ H p) (he : p = true → CE X e σ H (.int i)) (hold : σ.set n (some (.int j)) = σ) (hps : ∀ t, PE X e t → PS X (.Assign [.Name x p1] e p2) (tAsg t (gName n)))
    (k : CR X rest (σ.set n (some (.int (if p = true then i else j)))) H Q) : CR X (.If c [.Assign [.Name x p1] e p2] [] pos :: rest) σ H Q := by
  obtain ⟨tc, pc, ec⟩ := hc
  cases p with
  | true =>
    obtain ⟨t, pt, kt⟩ := he rfl
    obtain ⟨u, pu, ku⟩ := k
    rw [if_pos rfl] at ku
    refine ⟨_, pss_cons (ps_if pc (pss_one (hps t pt)) pss_nil) pu, fun H1 e1 D hD => q_when (ec.mono e1) (fun _ H2 e2 => s_asg (kt.mono (e1.trans e2)) fun H3 e3 => ku H3 ((e1.trans e2).trans e3) D hD) fun z => Bool.noConfusion z⟩
  | false =>
    obtain ⟨u, pu, ku⟩ := k
    rw [if_neg Bool.false_ne_true, hold] at ku
    refine ⟨_, pss_cons (ps_if pc pss_never pss_nil) pu, fun H1 e1 D hD => q_when (ec.mono e1) (fun z => Bool.noConfusion z) fun _ H2 e2 => ku H2 (e1.trans e2) D hD⟩
end
theorem cshl {i j : Int} (n : Nat) (h : i.natAbs < 2 ^ n) (h0 : 0 ≤ j) (h1 : j ≤ 1000) (hn : n ≤ 1000 := by decide) : CShl i j := by
  obtain ⟨m, rfl⟩ := Int.eq_ofNat_of_zero_le h0
  exact shl_ok h (by omega)
end My

namespace My
open PySem PyProof.Rows L2 Evl
def top (i : Nat) : Stmt := PySem.Challenge.pw_flagwork_s04_unbyte.main.body.getD i (.Pass ⟨0, 0, 0, 0⟩)
abbrev FnP (K : PySem.W.Frag) (x : Str) (st : Stmt) (f : Addr) (fd : FuncData) : Prop := FunD K x x (defArgs st) (defBody st) (defScope st) [] [] f fd
theorem cr_fin {X : Cx} {b : List Stmt} {σ : L2.St} {H : Hp} {Q : VK} (h : CR X.nox b σ H Q) : ∃ t, PSs X b t ∧ t { nx := fun _ H' => Q .non H', rt := Q } σ H := by
  obtain ⟨t, pt, kt⟩ := h
  exact ⟨t, PSs.nox pt, kt H (Ex.refl H) _ rfl⟩
section
variable {H : Hp} {Q : VK} {p : Bool} {i j : Int} {l k : List Int} {b c : Bool}
theorem retv_t (h : p = true) (hq : RetV (.int (if p = true then i else j)) H Q) : RetV (.int i) H Q := by
  rw [if_pos h] at hq
  exact hq
theorem retv_f (h : p = false) (hq : RetV (.int (if p = true then i else j)) H Q) : RetV (.int j) H Q := by
  rw [if_neg (by rw [h]; exact Bool.false_ne_true)] at hq
  exact hq
theorem retl_t (h : p = true) (hq : RetL ((if p = true then l else k).map V.int) H Q) : RetL (l.map V.int) H Q := by
  rw [if_pos h] at hq
  exact hq
theorem retl_f (h : p = false) (hq : RetL ((if p = true then l else k).map V.int) H Q) : RetL (k.map V.int) H Q := by
  rw [if_neg (by rw [h]; exact Bool.false_ne_true)] at hq
  exact hq
theorem retu_t (h : p = true) (hq : RetU ((if p = true then l else k).map V.int) H Q) : RetU (l.map V.int) H Q := by
  rw [if_pos h] at hq
  exact hq
theorem retu_f (h : p = false) (hq : RetU ((if p = true then l else k).map V.int) H Q) : RetU (k.map V.int) H Q := by
  rw [if_neg (by rw [h]; exact Bool.false_ne_true)] at hq
  exact hq
end

theorem ct_is {X : Cx} {e : Expr} {σ : L2.St} {H : Hp} {p q : Bool} (h : CT X e σ H p) (z : p = q) : CT X e σ H q := by
  rw [← z]
  exact h
theorem flat_ints (l : List Int) : (l.map V.int).all flatV = true := by
  rw [List.all_eq_true]
  intro x hx
  obtain ⟨i, _, rfl⟩ := List.mem_map.mp hx
  rfl
theorem inV_ints (i : Int) (l : List Int) : (!inV (.int i) (l.map V.int)) = !decide (i ∈ l) := by
  have h : inV (.int i) (l.map V.int) = decide (i ∈ l) := by
    rw [Bool.eq_iff_iff, decide_eq_true_eq]
    unfold inV
    rw [List.any_eq_true]
    constructor
    · rintro ⟨x, hx, hy⟩
      obtain ⟨j, hj, rfl⟩ := List.mem_map.mp hx
      have e : j = i := eq_of_beq (show (j == i) = true from hy)
      rw [← e]
      exact hj
    · intro hi
      exact ⟨.int i, List.mem_map.mpr ⟨i, hi, rfl⟩, beq_self_eq_true i⟩
  rw [h]
/-- a dict of the module: whole numbers to defs, told by their names -/
def ITab (mg : Str → Option Value) (K : PySem.W.Frag) (d : Addr) (kvs : List (Int × Str)) : Prop :=
  ∃ es n, K.lookup d = some ⟨.type "dict", none, .dict es n, #[]⟩ ∧ (∀ e ∈ es, ∃ k, Value.isInt k e.key = true ∧ e.hash = hashInt k) ∧ ∀ q ∈ kvs, ∃ a, findBy Value.isInt es q.1 = some (.ref a) ∧ mg q.2 = some (.ref a)
def Tab (mg : Str → Option Value) (K : PySem.W.Frag) (x : Str) (kvs : List (Int × Str)) : Prop := ∃ d, mg x = some (.ref d) ∧ ITab mg K d kvs
def rTab (d : Addr) (i : Int) (f : Addr) : R2 := fun x y H Q => x = .ref d ∧ y = .int i ∧ Q (.ref f) H
theorem ix_tab {X : Cx} {d f : Addr} {i : Int} {es : Array DictEntry} {n : Nat} (hl : X.K.lookup d = some ⟨.type "dict", none, .dict es n, #[]⟩) (hk : ∀ e ∈ es, ∃ k, Value.isInt k e.key = true ∧ e.hash = hashInt k)
    (hf : findBy Value.isInt es i = some (.ref f)) : IxR X (rTab d i f) := by
  intro value slice pins s σ H x y v u Q I rx ry h hs
  obtain ⟨rfl, rfl, q⟩ := h
  obtain rfl : v = Value.ref d := rx
  obtain ⟨t, rfl⟩ := ry
  have hm : s.heap.MapOf (PySem.intKind X.prog X.w) d (fun k => findBy Value.isInt es k) := ⟨_, es, n, I.kIn _ _ hl, ⟨rfl, rfl, rfl⟩, rfl, hk, fun _ => rfl⟩
  exact tail_any hm.typeIs slot_dict_getitem.lookup (wpAny_getItem_of (PySem.intKind_is X.prog X.w i t) hm hf ⟨.ref f, H, I.tok _, rfl, q⟩) hs
theorem cr_step {X : Cx} {σ : L2.St} {H : Hp} {Q : VK} {n k : Nat} {i : Int} {tx y sx : Str} {kvs : List (Int × Str)} {sp : Sp} {b e : Expr} {es : List Expr} {vs xs : List V} {p1 p2 p4 p5 p6 p7 : Pos}
    (T : Tab X.mg X.K tx kvs) (hkey : (i, y) ∈ kvs) (F : Has X.prog X.w X.K X.mg X.base y k sp) (hr : Room k X.A) (hs : SpL sp vs H xs) (hv : PE X (.Name sx p5) (tVar n)) (hi : CE X b σ H (.int i))
    (hset : ∀ v, (σ.set n (some v))[n]? = some (some v))
    (hps : ∀ t, PE X (.Subscript (.Name tx p2) b p4) t → PS X (.Assign [.Name sx p1] (.Subscript (.Name tx p2) b p4) p6) (tAsg t (gName n)))
    (ha : ∀ f, CA X (e :: es) (σ.set n (some (.ref f))) H vs) (hq : RetL xs H Q)
    (hg : Gl X tx := by rfl) (hd : (tx == ("__debug__" : Str)) = false := by decide) (hpx : PlainIx b := by exact fun _ _ => rfl) (hN : X.N[n]? = some sx := by rfl)
    (hvis : Vis X.env.scope sx := by first | exact Or.inl rfl | exact Or.inr (Or.inl rfl) | exact Or.inr (Or.inr rfl)) (hdb : (sx == ("__debug__" : Str)) = false := by decide) (hcd : (sx == ("__classdict__" : Str)) = false := by decide)
    (he : starEach (e :: es) X.env = (false, eval e X.env) :: starEach es X.env := by rfl) (hpl : (backTo p7 (starEach es X.env)).any (·.1) = false := by rfl) {p8 : Pos} :
    CR X [.Assign [.Name sx p1] (.Subscript (.Name tx p2) b p4) p6, .Return (some (.Call (.Name sx p5) (e :: es) [] p7)) p8] σ H Q := by
  obtain ⟨d, gd, es', n', hl, hk, hall⟩ := T
  obtain ⟨f, hf, gf⟩ := hall _ hkey
  obtain ⟨f2, fd, ps, G, gm, kp, bd⟩ := F
  have ef : f2 = f := by
    have z : some (Value.ref f2) = some (Value.ref f) := gm.symm.trans gf
    cases z
    rfl
  subst ef
  obtain ⟨tb, pb, eb⟩ := hi
  obtain ⟨ta, pa, ea⟩ := ha f2
  refine ⟨_, pss_cons (hps _ (pe_ix (ix_tab hl hk hf) (pe_glob (v := .ref d) hg gd rfl hd) pb hpx)) (pss_one (ps_ret (pe_callL (i := n) G hr hN hvis kp bd .nil pass0 pa hdb hcd he hpl))), fun H1 e1 D hD => ?_⟩
  refine q_asg (v := .ref f2) ((ev_op (x := .ref d) (y := .int i) ev_c eb fun H2 _ Q q => ⟨rfl, rfl, q H2 (Ex.refl H2)⟩).mono e1) fun H2 e2 => ?_
  refine ⟨hset _, ea H2 (e1.trans e2) _ fun H3 e3 => ?_⟩
  rw [List.append_nil]
  refine hs H3 ((e1.trans e2).trans e3) _ (fun p H4 hp e4 h4 => ?_) _
  rw [hD]
  exact hq p H4 (fresh_back ((e1.trans e2).trans e3) hp) (((e1.trans e2).trans e3).trans e4) h4
/-- x = TABLE[number], and the rest with that def in x -/
theorem cr_tab {X : Cx} {σ : L2.St} {H : Hp} {Q : VK} {n : Nat} {i j : Int} {tx y sx : Str} {kvs : List (Int × Str)} {b : Expr} {rest : List Stmt} {p1 p2 p4 p6 : Pos}
    (T : Tab X.mg X.K tx kvs) (hkey : (i, y) ∈ kvs) (hi : CE X b σ H (.int j)) (hj : j = i)
    (hps : ∀ t, PE X (.Subscript (.Name tx p2) b p4) t → PS X (.Assign [.Name sx p1] (.Subscript (.Name tx p2) b p4) p6) (tAsg t (gName n)))
    (k : ∀ f, X.mg y = some (.ref f) → CR X rest (σ.set n (some (.ref f))) H Q)
    (hg : Gl X tx := by rfl) (hd : (tx == ("__debug__" : Str)) = false := by decide) (hpx : PlainIx b := by exact fun _ _ => rfl) :
    CR X (.Assign [.Name sx p1] (.Subscript (.Name tx p2) b p4) p6 :: rest) σ H Q := by
  subst hj
  obtain ⟨d, gd, es', n', hl, hk, hall⟩ := T
  obtain ⟨f, hf, gf⟩ := hall _ hkey
  obtain ⟨tb, pb, eb⟩ := hi
  obtain ⟨u, pu, eu⟩ := k f gf
  refine ⟨_, pss_cons (hps _ (pe_ix (ix_tab hl hk hf) (pe_glob (v := .ref d) hg gd rfl hd) pb hpx)) pu, fun H1 e1 D hD => ?_⟩
  exact q_asg (v := .ref f) ((ev_op (x := .ref d) (y := .int j) ev_c eb fun H2 _ Q q => ⟨rfl, rfl, q H2 (Ex.refl H2)⟩).mono e1) fun H2 e2 => eu H2 (e1.trans e2) D hD
/-- a call of the def that a local name holds -/
theorem ce_callL {X : Cx} {σ : L2.St} {H : Hp} {n k : Nat} {y sx : Str} {sp : Sp} {f : Addr} {e : Expr} {es : List Expr} {vs : List V} {z : V} {p5 p7 : Pos}
    (F : Has X.prog X.w X.K X.mg X.base y k sp) (gf : X.mg y = some (.ref f)) (hr : Room k X.A) (hv : σ[n]? = some (some (.ref f))) (ha : CA X (e :: es) σ H vs) (hs : SpV sp vs H z)
    (hN : X.N[n]? = some sx := by rfl) (hvis : Vis X.env.scope sx := by first | exact Or.inl rfl | exact Or.inr (Or.inl rfl) | exact Or.inr (Or.inr rfl))
    (hdb : (sx == ("__debug__" : Str)) = false := by decide) (hcd : (sx == ("__classdict__" : Str)) = false := by decide)
    (he : starEach (e :: es) X.env = (false, eval e X.env) :: starEach es X.env := by rfl) (hpl : (backTo p7 (starEach es X.env)).any (·.1) = false := by rfl) : CE X (.Call (.Name sx p5) (e :: es) [] p7) σ H z := by
  obtain ⟨f2, fd, ps, G, gm, kp, bd⟩ := F
  have ef : f2 = f := by
    have q : some (Value.ref f2) = some (Value.ref f) := gm.symm.trans gf
    cases q
    rfl
  subst ef
  obtain ⟨ta, pa, ea⟩ := ha
  refine ⟨_, pe_callL (i := n) G hr hN hvis kp bd .nil pass0 pa hdb hcd he hpl, fun H1 e1 Q q => ⟨hv, ea H1 e1 _ fun H2 e2 => ?_⟩⟩
  rw [List.append_nil]
  exact hs H2 (e1.trans e2) Q (fun H3 e3 => q H3 (e2.trans e3)) _

abbrev s_unbyte : Stmt := top 2
theorem sc_unbyte : FnScope ["flags", "b"] ["flags", "b"] (defScope s_unbyte) := ⟨rfl, rfl, rfl, by decide +kernel, rfl, by decide +kernel, by decide +kernel⟩

def sp_unbyte : Sp := fun vs H Q _ => ∃ (flags : Int) (b : Int), vs = [.int flags, .int b] ∧ RetL ((m_unbyte flags b).map V.int) H Q
theorem v_unbyte {flags : Int} {b : Int} {H : Hp} : SpL sp_unbyte [.int flags, .int b] H ((m_unbyte flags b).map V.int) := fun _ _ _ q _ => ⟨flags, b, rfl, q⟩

section
variable {P : Program} {w : World} {K : PySem.W.Frag} {mg : Str → Option Value} {base : Heap}
theorem ok_unbyte {f : Addr} {fd : FuncData} (F : FnP K "unbyte" s_unbyte f fd) (c_IN_BYTE : Cst mg "IN_BYTE" 213) : FnOk P w K mg base CX0 1 f fd ["flags", "b"] sp_unbyte := by
  refine FunD.ok F sc_unbyte (fun vs H Q E h => ?_) (fun cdv A outer s H vs Q E hr h => ?_)
  · obtain ⟨_, _, rfl, _⟩ := h
    rfl
  · obtain ⟨flags, b, rfl, hq⟩ := h
    exact cr_fin (
        cr_retL (cl_lst (ca_1 (ce_or (ce_and (ce_v 0 (pv 0) rfl) (ce_inv (ce_g c_IN_BYTE rfl (by decide)))) (ce_and (ce_v 1 (pv 1) rfl) (ce_g c_IN_BYTE rfl (by decide)))) ca_0) (by exact (by decide : 1 ≤ 100000))) hq)

theorem has_unbyte {f : Addr} {fd : FuncData} (F : FnP K "unbyte" s_unbyte f fd) (g : mg "unbyte" = some (.ref f)) (c_IN_BYTE : Cst mg "IN_BYTE" 213) : Has P w K mg base "unbyte" 1 sp_unbyte :=
  ⟨f, fd, _, ok_unbyte F c_IN_BYTE, g, F.kp, FunD.bindsN F fun _ _ _ _ _ _ us hl => match us, hl with | [_, _], _ => rfl⟩

end
end My

/-! ### What is due of byte and unbyte, bit by bit (no mirror in it: it stands by itself) -/
namespace My
open PySem PyProof.Rows
theorem nat_q (n : Nat) : FwLines.nat? (n : Int) = some n := by
  unfold FwLines.nat?
  rw [if_pos (by omega), Int.toNat_natCast]
theorem spec_byte (f : Nat) : PyWqacds.byte (f : Int) = [((FwOps.byteOf f : Nat) : Int)] := by
  unfold PyWqacds.byte Neutral.step Neutral.callOf
  simp only [nat_q]
  rfl
theorem spec_unbyte (f b : Nat) : PyWqacds.unbyte (f : Int) (b : Int) = [((FwOps.unbyte f b : Nat) : Int)] := by
  unfold PyWqacds.unbyte Neutral.step Neutral.callOf
  simp only [nat_q]
  rfl
theorem bt (x i : Nat) : FwOps.bitAt x i = x.testBit i := by
  unfold FwOps.bitAt
  rw [Nat.testBit_eq_decide_div_mod_eq]
theorem bit_ext {x y : Nat} (h : ∀ j, FwOps.bitAt x j = FwOps.bitAt y j) : x = y := Nat.eq_of_testBit_eq fun j => by
  rw [← bt, ← bt]
  exact h j
theorem set_or {f i : Nat} (h : f.testBit i = false) : f + 2 ^ i = f ||| 2 ^ i := by
  have e : f &&& 2 ^ i = 0 := Nat.eq_of_testBit_eq fun t => by
    rw [Nat.testBit_and, Nat.testBit_two_pow, Nat.zero_testBit]
    by_cases q : i = t
    · subst q
      rw [h]
      rfl
    · simp [q]
  have z := nat_or_add_and f (2 ^ i)
  omega
theorem clr_xor {f i : Nat} (h : f.testBit i = true) : f - 2 ^ i = f ^^^ 2 ^ i := by
  have e1 : (f ^^^ 2 ^ i) ||| 2 ^ i = f := Nat.eq_of_testBit_eq fun t => by
    rw [Nat.testBit_or, Nat.testBit_xor, Nat.testBit_two_pow]
    by_cases q : i = t
    · subst q
      rw [h]
      simp
    · simp [q]
  have e2 : (f ^^^ 2 ^ i) &&& 2 ^ i = 0 := Nat.eq_of_testBit_eq fun t => by
    rw [Nat.testBit_and, Nat.testBit_xor, Nat.testBit_two_pow, Nat.zero_testBit]
    by_cases q : i = t
    · subst q
      rw [h]
      simp
    · simp [q]
  have z := nat_or_add_and (f ^^^ 2 ^ i) (2 ^ i)
  omega
theorem bit_put {f i j : Nat} {h : Bool} : FwOps.bitAt (FwOps.put f (i, h)) j = if j = i then h else FwOps.bitAt f j := by
  unfold FwOps.put
  dsimp only
  rw [bt f i, bt f j]
  by_cases q : f.testBit i = h
  · rw [if_pos q, bt]
    by_cases ji : j = i
    · subst ji
      rw [if_pos rfl]
      exact q
    · rw [if_neg ji]
  · rw [if_neg q]
    cases h with
    | true =>
      have q2 : f.testBit i = false := by simpa using q
      rw [if_pos rfl, bt, set_or q2, Nat.testBit_or, Nat.testBit_two_pow]
      by_cases ji : j = i
      · simp [ji]
      · have ij : ¬ i = j := fun z => ji z.symm
        simp [ji, ij]
    | false =>
      have q2 : f.testBit i = true := by simpa using q
      rw [if_neg Bool.false_ne_true, bt, clr_xor q2, Nat.testBit_xor, Nat.testBit_two_pow]
      by_cases ji : j = i
      · subst ji
        simp [q2]
      · have ij : ¬ i = j := fun z => ji z.symm
        simp [ji, ij]
theorem byte_puts (f : Nat) : FwOps.byteOf f = FwOps.giving 2 [(7, FwOps.bitAt f 7), (6, FwOps.bitAt f 6), (4, FwOps.bitAt f 4), (2, FwOps.bitAt f 2), (0, FwOps.bitAt f 0)] := rfl
theorem unbyte_puts (f b : Nat) : FwOps.unbyte f b = FwOps.giving f [(7, FwOps.bitAt b 7), (6, FwOps.bitAt b 6), (4, FwOps.bitAt b 4), (2, FwOps.bitAt b 2), (0, FwOps.bitAt b 0)] := rfl
/-- the byte as a sum -/
theorem byte_sum (f : Nat) : FwOps.byteOf f = 128 * (f / 128 % 2) + 64 * (f / 64 % 2) + 16 * (f / 16 % 2) + 4 * (f / 4 % 2) + 2 + f % 2 := by
  have v : ∀ i, FwOps.bitAt f i = decide (f / 2 ^ i % 2 = 1) := fun _ => rfl
  rw [byte_puts, v, v, v, v, v]
  have h7 : f / 2 ^ 7 % 2 = f / 128 % 2 := rfl
  have h6 : f / 2 ^ 6 % 2 = f / 64 % 2 := rfl
  have h4 : f / 2 ^ 4 % 2 = f / 16 % 2 := rfl
  have h2 : f / 2 ^ 2 % 2 = f / 4 % 2 := rfl
  have h0 : f / 2 ^ 0 % 2 = f % 2 := by rw [Nat.pow_zero, Nat.div_one]
  rw [h7, h6, h4, h2, h0]
  rcases Nat.mod_two_eq_zero_or_one (f / 128) with a | a <;> rcases Nat.mod_two_eq_zero_or_one (f / 64) with b | b <;> rcases Nat.mod_two_eq_zero_or_one (f / 16) with c | c <;> rcases Nat.mod_two_eq_zero_or_one (f / 4) with d | d <;> rcases Nat.mod_two_eq_zero_or_one f with e | e <;> rw [a, b, c, d, e] <;> rfl
/-- bit by bit -/
theorem byte_bit (f j : Nat) : FwOps.bitAt (FwOps.byteOf f) j = if j = 0 ∨ j = 2 ∨ j = 4 ∨ j = 6 ∨ j = 7 then FwOps.bitAt f j else decide (j = 1) := by
  rw [byte_puts]
  show FwOps.bitAt (FwOps.put (FwOps.put (FwOps.put (FwOps.put (FwOps.put 2 _) _) _) _) _) j = _
  rw [bit_put, bit_put, bit_put, bit_put, bit_put]
  have e2 : FwOps.bitAt 2 j = decide (j = 1) := by
    rw [bt, show (2 : Nat) = 2 ^ 1 from rfl, Nat.testBit_two_pow, decide_eq_decide]
    omega
  rw [e2]
  by_cases h0 : j = 0
  · subst h0; rfl
  by_cases h2 : j = 2
  · subst h2; rfl
  by_cases h4 : j = 4
  · subst h4; rfl
  by_cases h6 : j = 6
  · subst h6; rfl
  by_cases h7 : j = 7
  · subst h7; rfl
  rw [if_neg h0, if_neg h2, if_neg h4, if_neg h6, if_neg h7, if_neg (by omega)]
theorem unbyte_bit (f b j : Nat) : FwOps.bitAt (FwOps.unbyte f b) j = if j = 0 ∨ j = 2 ∨ j = 4 ∨ j = 6 ∨ j = 7 then FwOps.bitAt b j else FwOps.bitAt f j := by
  rw [unbyte_puts]
  show FwOps.bitAt (FwOps.put (FwOps.put (FwOps.put (FwOps.put (FwOps.put f _) _) _) _) _) j = _
  rw [bit_put, bit_put, bit_put, bit_put, bit_put]
  by_cases h0 : j = 0
  · subst h0; rfl
  by_cases h2 : j = 2
  · subst h2; rfl
  by_cases h4 : j = 4
  · subst h4; rfl
  by_cases h6 : j = 6
  · subst h6; rfl
  by_cases h7 : j = 7
  · subst h7; rfl
  rw [if_neg h0, if_neg h2, if_neg h4, if_neg h6, if_neg h7, if_neg (by omega)]
/-- the bits of the mask 213 -/
theorem mask_bit (j : Nat) : Nat.testBit 213 j = decide (j = 0 ∨ j = 2 ∨ j = 4 ∨ j = 6 ∨ j = 7) := by
  by_cases h : j < 8
  · have : ∀ i, i < 8 → Nat.testBit 213 i = decide (i = 0 ∨ i = 2 ∨ i = 4 ∨ i = 6 ∨ i = 7) := by decide
    exact this j h
  · have h1 : Nat.testBit 213 j = false := Nat.testBit_lt_two_pow (Nat.lt_of_lt_of_le (by decide : 213 < 2 ^ 8) (Nat.pow_le_pow_right (by decide) (by omega)))
    rw [h1]
    symm
    rw [decide_eq_false_iff_not]
    omega
theorem byte_mask (f : Nat) : FwOps.byteOf f = (f &&& 213) ||| 2 := bit_ext fun j => by
  rw [byte_bit, bt, bt, Nat.testBit_or, Nat.testBit_and, mask_bit, show (2 : Nat) = 2 ^ 1 from rfl, Nat.testBit_two_pow]
  by_cases q : j = 0 ∨ j = 2 ∨ j = 4 ∨ j = 6 ∨ j = 7
  · have q1 : ¬ 1 = j := by omega
    rw [if_pos q, decide_eq_true q, decide_eq_false q1]
    simp
  · have q2 : decide (1 = j) = decide (j = 1) := by
      rw [decide_eq_decide]
      omega
    rw [if_neg q, decide_eq_false q, q2]
    simp
theorem unbyte_mask (f b : Nat) : FwOps.unbyte f b = (f - (f &&& 213)) ||| (b &&& 213) := by
  have e : f - (f &&& 213) = f ^^^ (f &&& 213) := by
    have z := nat_or_add_and (f ^^^ (f &&& 213)) (f &&& 213)
    have z1 : (f ^^^ (f &&& 213)) ||| (f &&& 213) = f := Nat.eq_of_testBit_eq fun t => by
      rw [Nat.testBit_or, Nat.testBit_xor, Nat.testBit_and]
      cases f.testBit t <;> cases Nat.testBit 213 t <;> rfl
    have z2 : (f ^^^ (f &&& 213)) &&& (f &&& 213) = 0 := Nat.eq_of_testBit_eq fun t => by
      rw [Nat.testBit_and, Nat.testBit_xor, Nat.testBit_and, Nat.zero_testBit]
      cases f.testBit t <;> cases Nat.testBit 213 t <;> rfl
    omega
  rw [e]
  refine bit_ext fun j => ?_
  rw [unbyte_bit, bt, bt, bt, Nat.testBit_or, Nat.testBit_xor, Nat.testBit_and, Nat.testBit_and, mask_bit]
  by_cases q : j = 0 ∨ j = 2 ∨ j = 4 ∨ j = 6 ∨ j = 7
  · rw [if_pos q, decide_eq_true q]
    simp
  · rw [if_neg q, decide_eq_false q]
    simp
/-! Python's bit operators on numbers that are not below 0 -/
theorem band_nat (x y : Nat) : Builtin.bitAnd (x : Int) (y : Int) = ((x &&& y : Nat) : Int) := by
  rw [bitAnd_pp (by omega) (by omega)]
  rfl
theorem bor_nat (x y : Nat) : Builtin.bitOr (x : Int) (y : Int) = ((x ||| y : Nat) : Int) := by
  rw [bitOr_and, band_nat]
  have z := nat_or_add_and x y
  omega
theorem bandn_nat (x y : Nat) : Builtin.bitAnd (x : Int) (Builtin.bitNot (y : Int)) = ((x - (x &&& y) : Nat) : Int) := by
  rw [bitAnd_not, band_nat]
  have z : x &&& y ≤ x := Nat.and_le_left
  omega
end My

/-! ### What is due of unbyte, and that the mirror is that -/
namespace My
open PySem PyProof.Rows
theorem mirror_nat (f b : Nat) : m_unbyte (f : Int) (b : Int) = PyWqacds.unbyte (f : Int) (b : Int) := by
  have h : Builtin.bitAnd (f : Int) (Builtin.bitNot (213 : Int)) = ((f - (f &&& 213) : Nat) : Int) := bandn_nat f 213
  have h2 : Builtin.bitAnd (b : Int) (213 : Int) = ((b &&& 213 : Nat) : Int) := band_nat b 213
  rw [spec_unbyte, unbyte_mask]
  unfold m_unbyte
  rw [h, h2, bor_nat]
theorem mirror_is {flags b : Int} (h1 : 0 ≤ flags ∧ flags ≤ 4294967295) (h2 : 0 ≤ b ∧ b ≤ 255) : m_unbyte flags b = PyWqacds.unbyte flags b := by
  obtain ⟨f, rfl⟩ := Int.eq_ofNat_of_zero_le h1.1
  obtain ⟨c, rfl⟩ := Int.eq_ofNat_of_zero_le h2.1
  exact mirror_nat f c
end My

/-! ### The end: what the top has left (one run in the kernel, looked at by names), and the row -/
namespace My
open PySem PyProof.Rows L2 Evl
def keyB (e : DictEntry) : Bool := match e.key with
  | .int i _ => decide (e.hash = hashInt i)
  | _ => false
def valB (K : PySem.W.Frag) (es : Array DictEntry) (q : Int × Str) : Bool := match findBy Value.isInt es q.1 with
  | some (.ref a) => decide (a = He.ga K q.2)
  | _ => false
/-- the module's name t.1 is a dict of whole numbers to the defs so named -/
def tabB (K : PySem.W.Frag) (t : Str × List (Int × Str)) : Bool := match K.lookup (He.ga K t.1) with
  | some ⟨.type c, none, .dict es _, sl⟩ => (decide (c = "dict") && sl.isEmpty) && (es.toList.all keyB && t.2.all (valB K es))
  | _ => false
theorem tab_ok {K : PySem.W.Frag} {mg : Str → Option Value} {t : Str × List (Int × Str)} (h : tabB K t = true) (g : mg t.1 = some (.ref (He.ga K t.1))) (gs : ∀ q ∈ t.2, mg q.2 = some (.ref (He.ga K q.2))) : Tab mg K t.1 t.2 := by
  unfold tabB at h
  cases e : K.lookup (He.ga K t.1) with
  | none =>
    rw [e] at h
    cases h
  | some ob =>
    obtain ⟨oc, od, dt, osl⟩ := ob
    rw [e] at h
    cases oc with
    | type c =>
      cases od with
      | none =>
        cases dt with
        | dict es n =>
          have h1 : ((decide (c = "dict") && osl.isEmpty) && (es.toList.all keyB && t.2.all (valB K es))) = true := h
          rw [Bool.and_eq_true, Bool.and_eq_true, Bool.and_eq_true] at h1
          obtain ⟨⟨h2, h3⟩, h4, h5⟩ := h1
          have e1 : c = "dict" := of_decide_eq_true h2
          have e2 : osl = #[] := Array.isEmpty_iff.mp h3
          subst e1 e2
          refine ⟨_, g, es, n, e, fun d hd => ?_, fun q hq => ?_⟩
          · have k1 := List.all_eq_true.mp h4 d (Array.mem_toList_iff.mpr hd)
            unfold keyB at k1
            split at k1
            · rename_i i t ek
              refine ⟨i, ?_, of_decide_eq_true k1⟩
              rw [ek]
              simp [Value.isInt]
            · cases k1
          · have k1 := List.all_eq_true.mp h5 q hq
            unfold valB at k1
            split at k1
            · rename_i a ea
              have e3 : a = He.ga K q.2 := of_decide_eq_true k1
              exact ⟨a, ea, by rw [e3]; exact gs q hq⟩
            · cases k1
        | _ => cases h
      | some b => cases dt <;> cases h
    | _ => cases od <;> cases dt <;> cases h
abbrev Seen : Type := He.AlD × Bool
def seen (fa : List He.Fa) (fn : List He.DefD) (ts : List (Str × List (Int × Str))) (K : PySem.W.Frag) : Seen := (He.obsD fa fn K, ts.all (tabB K))
def seenG (n : Nat) (fa : List He.Fa) (fn : List He.DefD) (ts : List (Str × List (Int × Str))) (g : Addr → Option Obj) : Seen := seen fa fn ts (He.frG g (He.asD g n))
def look (n : Nat) (fa : List He.Fa) (fn : List He.DefD) (ts : List (Str × List (Int × Str))) : PySem.W.Hook where
  α := Seen
  obs := fun sh => seenG n fa fn ts sh.heap.get?
  val := fun _ => (He.valD fn, true)
  says := fun _ hp => ∃ K : PySem.W.Frag, K.In hp ∧ seen fa fn ts K = (He.valD fn, true)
  of := fun _ _ z => ⟨_, He.frG_in, z⟩
  keeps := fun _ _ _ ⟨K, inK, z⟩ kp => ⟨K, PySem.W.Frag.In.keeps inK kp, z⟩
/-- the end of a Spec row where the written part is told by what was seen -/
theorem walk_here {r : PySem.W.OpenSpec} {k : Nat} {q : Program} {lo : List Str} {XP : (Str → Option Value) → Heap → Prop} {YP : World → Heap → Prop} {d : DefRec} {ps : List Str} {sp : Sp}
    (well : r.wellSaid = true) (len : r.args.length = ps.length) (room : Room k callerA)
    (F : ∀ (w : World) (mg : Str → Option Value) (fa : Addr) (h : Heap), YP w h → h.Ns mainGlobals mg → mg d.name = some (.ref fa) →
      ∃ (K : PySem.W.Frag) (fd : FuncData), K.In h ∧ (∀ (s : Shared) (us : List Value), us.length = ps.length → BindsTo s fd ⟨us, []⟩ (ps.zip us)) ∧ ∀ base : Heap, FnOk r.prog w K mg base CX0 k fa fd ps sp)
    (hsp : ∀ (K : PySem.W.Frag) (H : Hp) (xs : List V) (a : PySem.W.Codec.denoteAll r.args), PySem.W.Codec.withinAll r.args a = true → DwAll K H xs (PySem.W.Codec.encAll r.args a) →
      sp xs H (fun v H' => Dw K H' v (r.ret.enc (PySem.W.Codec.app r.args r.f a))) fun _ _ _ => False) :
    PySem.W.WalkOS q lo XP YP r d [] (fun f vs => PySem.call f vs) := by
  intro w s0 s1 mg mb G Y fa o pm cd doc dV kV
  intro h1 h2 h3 h4 hmg hgens args vals as hpre hlay hread hwell hl
  obtain ⟨a, da, qa⟩ := PySem.W.os_pre_some hpre
  obtain ⟨ea, within⟩ := PySem.W.Codec.encAll_of_decAll r.args args a da
  subst ea
  obtain ⟨K, fd, KX, bnd, ok⟩ := F w mg fa _ Y G.T.g hmg
  have go := spec_call (R := []) (cl := classAt s0.heap) (d0 := r.ret.enc (PySem.W.Codec.app r.args r.f a)) KX G.T.g G.T.b G.T.builtins
    G.T.nolimit hgens hwell (pl_encAll _ _) (layable_weight hlay) room (fun base _ _ => ok base) bnd
    (by rw [encAll_len]; exact len) (fun H xs _ hx => hsp K H xs a within hx) (fun _ _ _ z => z)
  refine PySem.W.enter_call (codeAny_mono go fun r' s' hq => ?_)
  obtain ⟨u, as', rfl, k1, k2, k3, k4⟩ := hq
  refine ⟨.inl ⟨u, _, as', rfl, fun _ => rfl, k1, ?_, fun z => ?_⟩, k2, k3, k4⟩
  · exact (PySem.W.OpenSpec.post_iff well within _ _).mpr rfl
  · exact Bool.noConfusion (show false = true from z)

/-! what is looked at, by names -/
def d_unbyte : He.DefD := ⟨("unbyte", none), "unbyte", "unbyte", defArgs s_unbyte, defBody s_unbyte, defScope s_unbyte, [], []⟩
def fn0 : List He.DefD := [d_unbyte]
def gl0 : List He.Fa := [.glo "unbyte"]
def glx : List He.Fa := [.int "IN_BYTE" 213]
def fns : List He.DefD := fn0
def fas : List He.Fa := gl0 ++ (glx)
def tbs : List (Str × List (Int × Str)) := []
def lo0 : List Str := ["IN_BYTE"]
def los : List Str := lo0
abbrev hk : PySem.W.Hook := look 2 fas fns tbs
def ob (s : PySem.W.SharedT) : Seen := seenG 2 fas fns tbs (HandSHeadRun.getT s)
theorem ob_eq (s : PySem.W.SharedT) : ob s = hk.obs s.abs := by
  have e : HandSHeadRun.getT s = s.abs.heap.get? := funext (HandSHeadRun.getT_eq s)
  show seenG 2 fas fns tbs (HandSHeadRun.getT s) = _
  rw [e]
  rfl
abbrev R : PySem.W.OpenSpec := PySem.Challenge.rw_flagwork_s04_unbyte
abbrev RunP (w : World) : Prop := HandSHeadRun.RunEqS R (PySem.W.view R.prog [2]) hk ob 20000 los w
theorem run_f (w : World) : RunP (w.withFollow "special-get-raises" false) := by
  intro os
  kernel_rfl
theorem run_t (w : World) : RunP (w.withFollow "special-get-raises" true) := by
  intro os
  kernel_rfl
theorem run (w : World) : RunP w := PySem.W.byRow2 "special-get-raises" (P := RunP) run_f run_t w

theorem facts {P : Program} {w : World} {K : PySem.W.Frag} {h : Heap} {mg : Str → Option Value} {f : Addr} (X : K.In h) (G : h.Ns mainGlobals mg) (hf : mg ("unbyte" : Str) = some (.ref f)) (c : seen fas fns tbs K = (He.valD fns, true)) :
    ∃ fd : FuncData, (∀ (s : Shared) (us : List Value), us.length = 2 → BindsTo s fd ⟨us, []⟩ ((["flags", "b"] : List Str).zip us)) ∧ ∀ base : Heap, FnOk P w K mg base CX0 1 f fd ["flags", "b"] sp_unbyte := by
  have cd : He.SaysD fas fns K := congrArg (fun z : Seen => z.1) c
  have ct : tbs.all (tabB K) = true := congrArg (fun z : Seen => z.2) c
  obtain ⟨fd_unbyte, F_unbyte⟩ := cd.def_ 0 (d := d_unbyte) rfl
  have g_unbyte : mg "unbyte" = some (.ref (He.ga K "unbyte")) := He.glo_ok X G (cd.fact 0 (f := .glo "unbyte") rfl)
  have c_IN_BYTE : Cst mg "IN_BYTE" 213 := He.int_ok X G (cd.fact 1 (f := .int "IN_BYTE" 213) rfl)
  have ef := hf.symm.trans g_unbyte
  cases ef
  refine ⟨fd_unbyte, fun s us hu => FunD.bindsA (ps := ["flags", "b"]) F_unbyte (fun _ _ _ _ _ _ us hl => match us, hl with | [_, _], _ => rfl) s us hu, fun base => ?_⟩
  exact ok_unbyte F_unbyte c_IN_BYTE
end My
open PySem PySem.W PySem.Calls PyProof.Rows
theorem PySem.Challenge.cw_flagwork_s04_unbyte_holds : PySem.Challenge.rw_flagwork_s04_unbyte.Holds := by
  w_on
  refine HandSHeadRun.head_spec (r := PySem.Challenge.rw_flagwork_s04_unbyte) (q := view PySem.Challenge.rw_flagwork_s04_unbyte.prog [2]) (H := My.hk) (ob := My.ob) (M := 20000) (loose := My.los) (d := HandSHeadRun.topDef PySem.Challenge.rw_flagwork_s04_unbyte.prog 2) (kwd := []) My.ob_eq
    (by kernel_rfl) (fun s => by kernel_rfl) My.run (by kernel_rfl) (by kernel_rfl) (by kernel_rfl) os_shapes (by decide +kernel) (by decide +kernel) ⟨rfl, rfl, rfl, rfl, rfl, by decide +kernel⟩ ?hw ?hc
  case hw => exact ⟨[.int 0, .int 0], by decide +kernel, by decide +kernel⟩
  case hc =>
    refine My.walk_here (r := PySem.Challenge.rw_flagwork_s04_unbyte) (k := 1) (ps := ["flags", "b"]) (sp := My.sp_unbyte) (by decide +kernel) rfl ⟨rfl, by decide, by decide⟩ ?F ?S
    case F =>
      intro w mg fa h Y G hmg0
      obtain ⟨K, KX, c⟩ := Y
      have hmg : mg ("unbyte" : PySem.Str) = some (.ref fa) := by
        have e : (HandSHeadRun.topDef PySem.Challenge.rw_flagwork_s04_unbyte.prog 2).name = ("unbyte" : PySem.Str) := by kernel_rfl
        rw [← e]
        exact hmg0
      obtain ⟨fd, hb, hF⟩ := My.facts (P := PySem.Challenge.rw_flagwork_s04_unbyte.prog) (w := w) KX G hmg c
      exact ⟨K, fd, KX, hb, hF⟩
    case S =>
      intro K H xs q1 hwi hx
      obtain ⟨flags1, b1, u⟩ := q1
      cases hx with | cons h1 hx => cases hx with | cons h2 hx =>
        cases hx
        cases h1
        cases h2
        have hq : (Codec.inInt 0 4294967295 flags1 && (Codec.inInt 0 255 b1 && true)) = true := hwi
        simp only [Codec.inInt, Bool.and_eq_true, decide_eq_true_eq] at hq
        refine ⟨flags1, b1, rfl, fun p H2 _ _ hp => ?_⟩
        rw [My.mirror_is (by omega) (by omega)] at hp
        exact .lst (L2.SqL.of hp) (L2.dw_ints _)

