/- TermAlikes is true for every two terms, and changes them in nothing. No condition. -/
import Derived.Test.YtjpahjfjpkbcnaaGreatB21
import Derived.Test.YtjpahjfjpkbcnaaGreatB22
import Derived.Test.YtjpahjfjpkbcnaaGreatB05
import Derived.Test.YtjpahjfjpkbcnaaGreatB12
import Derived.Test.YtjpahjfjpkbcnaaGreatB19
import Derived.Test.YtjpahjfjpkbcnaaGreatB10
import Derived.Test.YtjpahjfjpkbcnaaGreatRows
import Derived.Test.YtjpahjfjpkbcnaaGreatB11

namespace Go.Proofs.YtjpahjfjpkbcnaaGreat
open Go.Proofs Go.RowKit
def r11x0 : Oper := { dst := some 29, op := Op.move (Operand.tmp 8), type := 43, pos := "law.go:227", after := #[], guard := none }
def r11x1 : Oper := { dst := some 30, op := Op.load 32 (Operand.tmp 2), type := 32, pos := "law.go:227", after := #[], guard := none }
def r11x2 : Oper := { dst := some 31, op := Op.call { callee := Callee.value (Operand.func 30), args := #[Operand.tmp 30], argTypes := #[32] }, type := 4, pos := "law.go:227", after := #[{ on := 1, ground := Ground.data }], guard := none }
def r11x3 : Oper := { dst := some 32, op := Op.call { callee := Callee.value (Operand.func 25), args := #[Operand.tmp 31], argTypes := #[4] }, type := 43, pos := "law.go:227", after := #[{ on := 2, ground := Ground.data }, { on := 2, ground := Ground.chain }], guard := none }
def r11x4 : Oper := { dst := some 33, op := Op.binOp BinOp.neq 43 (Operand.tmp 29) (Operand.tmp 32) 43, type := 4, pos := "law.go:227", after := #[{ on := 0, ground := Ground.data }, { on := 3, ground := Ground.data }], guard := none }
def r11x5 : Oper := { dst := some 34, op := Op.move (Operand.tmp 33), type := 4, pos := "law.go:227", after := #[{ on := 4, ground := Ground.data }, { on := 3, ground := Ground.chain }], guard := none }
def r11x6 : Oper := { dst := some 35, op := Op.load 32 (Operand.tmp 2), type := 32, pos := "law.go:227", after := #[{ on := 5, ground := Ground.guard }], guard := some (5, false) }
def r11x7 : Oper := { dst := some 36, op := Op.call { callee := Callee.value (Operand.func 30), args := #[Operand.tmp 35], argTypes := #[32] }, type := 4, pos := "law.go:227", after := #[{ on := 6, ground := Ground.data }, { on := 5, ground := Ground.chain }, { on := 5, ground := Ground.guard }], guard := some (5, false) }
def r11x8 : Oper := { dst := some 37, op := Op.unOp UnOp.not 4 (Operand.tmp 36), type := 4, pos := "law.go:227", after := #[{ on := 7, ground := Ground.data }, { on := 5, ground := Ground.guard }], guard := some (5, false) }
def r11x9 : Oper := { dst := some 38, op := Op.move (Operand.tmp 37), type := 4, pos := "law.go:227", after := #[{ on := 8, ground := Ground.data }, { on := 7, ground := Ground.chain }, { on := 5, ground := Ground.guard }], guard := some (5, false) }
def r11x10 : Oper := { dst := some 39, op := Op.load 32 (Operand.tmp 7), type := 32, pos := "law.go:227", after := #[{ on := 9, ground := Ground.guard }], guard := some (9, true) }
def r11x11 : Oper := { dst := some 40, op := Op.call { callee := Callee.value (Operand.func 41), args := #[Operand.tmp 39], argTypes := #[32] }, type := 4, pos := "law.go:227", after := #[{ on := 10, ground := Ground.data }, { on := 9, ground := Ground.chain }, { on := 9, ground := Ground.guard }], guard := some (9, true) }
def r11x12 : Oper := { dst := some 41, op := Op.unOp UnOp.not 4 (Operand.tmp 40), type := 4, pos := "law.go:227", after := #[{ on := 11, ground := Ground.data }, { on := 9, ground := Ground.guard }], guard := some (9, true) }
def r11x13 : Oper := { dst := some 42, op := Op.pick (Operand.tmp 38) (Operand.tmp 41) (Operand.const (Value.bool false)), type := 4, pos := "law.go:227", after := #[{ on := 9, ground := Ground.data }, { on := 12, ground := Ground.data }, { on := 5, ground := Ground.guard }], guard := some (5, false) }
def r11x14 : Oper := { dst := some 43, op := Op.pick (Operand.tmp 34) (Operand.const (Value.bool true)) (Operand.tmp 42), type := 4, pos := "law.go:227", after := #[{ on := 5, ground := Ground.data }, { on := 13, ground := Ground.data }], guard := none }
def r11x15 : Oper := { dst := some 44, op := Op.move (Operand.tmp 43), type := 4, pos := "law.go:227", after := #[{ on := 14, ground := Ground.data }, { on := 11, ground := Ground.chain }], guard := none }
def r11x16 : Oper := { dst := some 45, op := Op.load 32 (Operand.tmp 2), type := 32, pos := "law.go:227", after := #[{ on := 15, ground := Ground.guard }], guard := some (15, false) }
def r11x17 : Oper := { dst := some 46, op := Op.call { callee := Callee.value (Operand.func 30), args := #[Operand.tmp 45], argTypes := #[32] }, type := 4, pos := "law.go:227", after := #[{ on := 16, ground := Ground.data }, { on := 15, ground := Ground.chain }, { on := 15, ground := Ground.guard }], guard := some (15, false) }
def r11x18 : Oper := { dst := some 47, op := Op.move (Operand.tmp 46), type := 4, pos := "law.go:227", after := #[{ on := 17, ground := Ground.data }, { on := 17, ground := Ground.chain }, { on := 15, ground := Ground.guard }], guard := some (15, false) }
def r11x19 : Oper := { dst := some 48, op := Op.load 32 (Operand.tmp 7), type := 32, pos := "law.go:227", after := #[{ on := 18, ground := Ground.guard }], guard := some (18, true) }
def r11x20 : Oper := { dst := some 49, op := Op.load 32 (Operand.tmp 2), type := 32, pos := "law.go:227", after := #[{ on := 18, ground := Ground.guard }], guard := some (18, true) }
def r11x21 : Oper := { dst := some 50, op := Op.call { callee := Callee.value (Operand.func 54), args := #[Operand.tmp 49], argTypes := #[32] }, type := 32, pos := "law.go:227", after := #[{ on := 20, ground := Ground.data }, { on := 18, ground := Ground.chain }, { on := 18, ground := Ground.guard }], guard := some (18, true) }
def r11x22 : Oper := { dst := some 51, op := Op.call { callee := Callee.value (Operand.func 45), args := #[Operand.tmp 48, Operand.tmp 50], argTypes := #[32, 32] }, type := 4, pos := "law.go:227", after := #[{ on := 19, ground := Ground.data }, { on := 21, ground := Ground.data }, { on := 21, ground := Ground.chain }, { on := 18, ground := Ground.guard }], guard := some (18, true) }
def r11x23 : Oper := { dst := some 52, op := Op.unOp UnOp.not 4 (Operand.tmp 51), type := 4, pos := "law.go:227", after := #[{ on := 22, ground := Ground.data }, { on := 18, ground := Ground.guard }], guard := some (18, true) }
def r11x24 : Oper := { dst := some 53, op := Op.pick (Operand.tmp 47) (Operand.tmp 52) (Operand.const (Value.bool false)), type := 4, pos := "law.go:227", after := #[{ on := 18, ground := Ground.data }, { on := 23, ground := Ground.data }, { on := 15, ground := Ground.guard }], guard := some (15, false) }
def r11x25 : Oper := { dst := some 54, op := Op.pick (Operand.tmp 44) (Operand.const (Value.bool true)) (Operand.tmp 53), type := 4, pos := "law.go:227", after := #[{ on := 15, ground := Ground.data }, { on := 24, ground := Ground.data }], guard := none }
def ops11 : Array Oper := #[r11x0, r11x1, r11x2, r11x3, r11x4, r11x5, r11x6, r11x7, r11x8, r11x9, r11x10, r11x11, r11x12, r11x13, r11x14, r11x15, r11x16, r11x17, r11x18, r11x19, r11x20, r11x21, r11x22, r11x23, r11x24, r11x25]
attribute [local go_sem] r11x0 r11x1 r11x2 r11x3 r11x4 r11x5 r11x6 r11x7 r11x8 r11x9 r11x10 r11x11 r11x12 r11x13 r11x14 r11x15 r11x16 r11x17 r11x18 r11x19 r11x20 r11x21 r11x22 r11x23 r11x24 r11x25
def errA (b : Bool) : Int := if b then 0 else 2
theorem errA_any (b : Bool) (w : World) : Calls Tryz.prog 25 #[.bool b] w fun e w' => e = .returned (.int .i64 (errA b)) ∧ Below w.heap.size w w' := by
 cases b <;> (go_enter Tryz.func25, Tryz.ntmps25; go_wp2; go_ret; exact ⟨rfl, Below.refl _ _⟩)
def nxt11 (j : Nat) : Nat := ([4, 2, 3, 4, 5, 14, 7, 8, 9, 13, 11, 12, 13, 14, 15, 25, 17, 18, 24, 22, 21, 22, 23, 24, 25] : List Nat).getD j 25
theorem waits11 (j : Nat) (hj : j < 25) : waitsB .any ops11 (nxt11 j) j = true ∧ j < nxt11 j ∧ nxt11 j ≤ 25 := by
 have h : (List.range 25).all (fun j => waitsB .any ops11 (nxt11 j) j && (decide (j < nxt11 j) && decide (nxt11 j ≤ 25))) = true := by kernel_rfl
 have h2 := List.all_eq_true.1 h j (List.mem_range.2 hj)
 simpa using h2
def Ext11 (i : Nat) (a : Act) (w : World) (a' : Act) (w' : World) : Prop := ((∃ v, a' = a.put (some (29 + i)) v) ∨ a' = a) ∧ Below w.heap.size w w'
section
variable (U : World) (T : Tm) (ka pa : Option Addr) (kc pc : Nat) (c0 c1 c2 c3 c4 : Value)
def B11 (qa qc : Nat) (e8 : Value) (d0 : List Deferred) (a0 : Act) (a : Act) (w : World) : Prop := a.tmps.size = 84 ∧ a.defers = d0 ∧ a.tmps[2]? = some (.pointer (some ⟨qa, 0, none⟩)) ∧ a.tmps[7]? = some (.pointer (some ⟨qc, 0, none⟩)) ∧ a.tmps[8]? = some e8 ∧ (∀ k, k < 29 → a.tmps[k]? = a0.tmps[k]?) ∧ (∀ k, 54 < k → a.tmps[k]? = a0.tmps[k]?) ∧ Below U.heap.size U w
theorem B11_put {qa qc : Nat} {e8 : Value} {d0 : List Deferred} {a0 a : Act} {w w' : World} (d : Nat) (v : Value) (h : B11 U qa qc e8 d0 a0 a w) (h2 : 28 < d) (h3 : d < 55) (hb : Below w.heap.size w w') : B11 U qa qc e8 d0 a0 (a.put (some d) v) w' := by
 obtain ⟨g1, g2, g3, g4, g5, g7, g8, g6⟩ := h
 exact ⟨by rw [size_put]; exact g1, g2, (put_get (by omega)).trans g3, (put_get (by omega)).trans g4, (put_get (by omega)).trans g5, fun k hk => (put_get (by omega)).trans (g7 k hk), fun k hk => (put_get (by omega)).trans (g8 k hk), g6.trans (hb.mono g6.size)⟩
def F11t (j : Nat) (a : Act) (w : World) : Prop :=
 match j with
 | 0 => a.tmps[29]? = some (.int .i64 (errA true))
 | 1 => a.tmps[30]? = some (.agg #[.int .i64 T.op, .int .i64 T.n, .string T.text, .slice ka T.kids.length kc, .slice pa T.pats.length pc])
 | 2 => a.tmps[31]? = some (.bool true)
 | 3 => a.tmps[32]? = some (.int .i64 (errA true))
 | 4 => a.tmps[33]? = some (.bool false)
 | 5 => a.tmps[34]? = some (.bool false)
 | 6 => a.tmps[35]? = some (.agg #[.int .i64 T.op, .int .i64 T.n, .string T.text, .slice ka T.kids.length kc, .slice pa T.pats.length pc])
 | 7 => a.tmps[36]? = some (.bool true)
 | 8 => a.tmps[37]? = some (.bool false)
 | 9 => a.tmps[38]? = some (.bool false)
 | 10 => True
 | 11 => True
 | 12 => True
 | 13 => a.tmps[42]? = some (.bool false)
 | 14 => a.tmps[43]? = some (.bool false)
 | 15 => a.tmps[44]? = some (.bool false)
 | 16 => a.tmps[45]? = some (.agg #[.int .i64 T.op, .int .i64 T.n, .string T.text, .slice ka T.kids.length kc, .slice pa T.pats.length pc])
 | 17 => a.tmps[46]? = some (.bool true)
 | 18 => a.tmps[47]? = some (.bool true)
 | 19 => a.tmps[48]? = some (.agg #[c0, c1, c2, c3, c4])
 | 20 => a.tmps[49]? = some (.agg #[.int .i64 T.op, .int .i64 T.n, .string T.text, .slice ka T.kids.length kc, .slice pa T.pats.length pc])
 | 21 => ∃ v, a.tmps[50]? = some v ∧ TmAt w.heap.size w (canR T) v
 | 22 => a.tmps[51]? = some (.bool true)
 | 23 => a.tmps[52]? = some (.bool false)
 | _ => a.tmps[53]? = some (.bool false)
theorem F11t_stab (i j : Nat) (a : Act) (w : World) (a' : Act) (w' : World) (hij : i ≠ j) (hj : j < 25) (h : F11t T ka pa kc pc c0 c1 c2 c3 c4 j a w) (hx : Ext11 i a w a' w') : F11t T ka pa kc pc c0 c1 c2 c3 c4 j a' w' := by
 obtain ⟨hp, hb⟩ := hx
 have hk : ∀ d, d = 29 + j → a'.tmps[d]? = a.tmps[d]? := fun d hd => by
  rcases hp with ⟨v, rfl⟩ | rfl
  ·exact put_get (by omega)
  ·rfl
 have hd : j = 0 ∨ j = 1 ∨ j = 2 ∨ j = 3 ∨ j = 4 ∨ j = 5 ∨ j = 6 ∨ j = 7 ∨ j = 8 ∨ j = 9 ∨ j = 10 ∨ j = 11 ∨ j = 12 ∨ j = 13 ∨ j = 14 ∨ j = 15 ∨ j = 16 ∨ j = 17 ∨ j = 18 ∨ j = 19 ∨ j = 20 ∨ j = 21 ∨ j = 22 ∨ j = 23 ∨ j = 24 := by omega
 rcases hd with rfl | rfl | rfl | rfl | rfl | rfl | rfl | rfl | rfl | rfl | rfl | rfl | rfl | rfl | rfl | rfl | rfl | rfl | rfl | rfl | rfl | rfl | rfl | rfl | rfl
 ·exact (hk 29 rfl).trans h
 ·exact (hk 30 rfl).trans h
 ·exact (hk 31 rfl).trans h
 ·exact (hk 32 rfl).trans h
 ·exact (hk 33 rfl).trans h
 ·exact (hk 34 rfl).trans h
 ·exact (hk 35 rfl).trans h
 ·exact (hk 36 rfl).trans h
 ·exact (hk 37 rfl).trans h
 ·exact (hk 38 rfl).trans h
 ·trivial
 ·trivial
 ·trivial
 ·exact (hk 42 rfl).trans h
 ·exact (hk 43 rfl).trans h
 ·exact (hk 44 rfl).trans h
 ·exact (hk 45 rfl).trans h
 ·exact (hk 46 rfl).trans h
 ·exact (hk 47 rfl).trans h
 ·exact (hk 48 rfl).trans h
 ·exact (hk 49 rfl).trans h
 ·obtain ⟨v, h1, h2⟩ := h
  exact ⟨v, (hk 50 rfl).trans h1, TmAt.keep hb hb.size _ _ h2⟩
 ·exact (hk 51 rfl).trans h
 ·exact (hk 52 rfl).trans h
 ·exact (hk 53 rfl).trans h
def F11f (j : Nat) (a : Act) (_ : World) : Prop :=
 match j with
 | 0 => a.tmps[29]? = some (.int .i64 (errA false))
 | 1 => a.tmps[30]? = some (.agg #[.int .i64 T.op, .int .i64 T.n, .string T.text, .slice ka T.kids.length kc, .slice pa T.pats.length pc])
 | 2 => a.tmps[31]? = some (.bool false)
 | 3 => a.tmps[32]? = some (.int .i64 (errA false))
 | 4 => a.tmps[33]? = some (.bool false)
 | 5 => a.tmps[34]? = some (.bool false)
 | 6 => a.tmps[35]? = some (.agg #[.int .i64 T.op, .int .i64 T.n, .string T.text, .slice ka T.kids.length kc, .slice pa T.pats.length pc])
 | 7 => a.tmps[36]? = some (.bool false)
 | 8 => a.tmps[37]? = some (.bool true)
 | 9 => a.tmps[38]? = some (.bool true)
 | 10 => a.tmps[39]? = some (.agg #[c0, c1, c2, c3, c4])
 | 11 => a.tmps[40]? = some (.bool true)
 | 12 => a.tmps[41]? = some (.bool false)
 | 13 => a.tmps[42]? = some (.bool false)
 | 14 => a.tmps[43]? = some (.bool false)
 | 15 => a.tmps[44]? = some (.bool false)
 | 16 => a.tmps[45]? = some (.agg #[.int .i64 T.op, .int .i64 T.n, .string T.text, .slice ka T.kids.length kc, .slice pa T.pats.length pc])
 | 17 => a.tmps[46]? = some (.bool false)
 | 18 => a.tmps[47]? = some (.bool false)
 | 19 => True
 | 20 => True
 | 21 => True
 | 22 => True
 | 23 => True
 | _ => a.tmps[53]? = some (.bool false)
theorem F11f_stab (i j : Nat) (a : Act) (w : World) (a' : Act) (w' : World) (hij : i ≠ j) (hj : j < 25) (h : F11f T ka pa kc pc c0 c1 c2 c3 c4 j a w) (hx : Ext11 i a w a' w') : F11f T ka pa kc pc c0 c1 c2 c3 c4 j a' w' := by
 obtain ⟨hp, hb⟩ := hx
 have hk : ∀ d, d = 29 + j → a'.tmps[d]? = a.tmps[d]? := fun d hd => by
  rcases hp with ⟨v, rfl⟩ | rfl
  ·exact put_get (by omega)
  ·rfl
 have hd : j = 0 ∨ j = 1 ∨ j = 2 ∨ j = 3 ∨ j = 4 ∨ j = 5 ∨ j = 6 ∨ j = 7 ∨ j = 8 ∨ j = 9 ∨ j = 10 ∨ j = 11 ∨ j = 12 ∨ j = 13 ∨ j = 14 ∨ j = 15 ∨ j = 16 ∨ j = 17 ∨ j = 18 ∨ j = 19 ∨ j = 20 ∨ j = 21 ∨ j = 22 ∨ j = 23 ∨ j = 24 := by omega
 rcases hd with rfl | rfl | rfl | rfl | rfl | rfl | rfl | rfl | rfl | rfl | rfl | rfl | rfl | rfl | rfl | rfl | rfl | rfl | rfl | rfl | rfl | rfl | rfl | rfl | rfl
 ·exact (hk 29 rfl).trans h
 ·exact (hk 30 rfl).trans h
 ·exact (hk 31 rfl).trans h
 ·exact (hk 32 rfl).trans h
 ·exact (hk 33 rfl).trans h
 ·exact (hk 34 rfl).trans h
 ·exact (hk 35 rfl).trans h
 ·exact (hk 36 rfl).trans h
 ·exact (hk 37 rfl).trans h
 ·exact (hk 38 rfl).trans h
 ·exact (hk 39 rfl).trans h
 ·exact (hk 40 rfl).trans h
 ·exact (hk 41 rfl).trans h
 ·exact (hk 42 rfl).trans h
 ·exact (hk 43 rfl).trans h
 ·exact (hk 44 rfl).trans h
 ·exact (hk 45 rfl).trans h
 ·exact (hk 46 rfl).trans h
 ·exact (hk 47 rfl).trans h
 ·trivial
 ·trivial
 ·trivial
 ·trivial
 ·trivial
 ·exact (hk 53 rfl).trans h
end
set_option maxHeartbeats 8000000 in
set_option maxRecDepth 100000 in
theorem reg11t {Q : Exit → Act → World → Prop} {a : Act} {U : World} {qa qc : Nat} {T : Tm} {ka pa : Option Addr} {kc pc : Nat} {c0 c1 c2 c3 c4 : Value}
  (hsz : a.tmps.size = 84) (h2 : a.tmps[2]? = some (.pointer (some ⟨qa, 0, none⟩))) (h7 : a.tmps[7]? = some (.pointer (some ⟨qc, 0, none⟩))) (h8 : a.tmps[8]? = some (.int .i64 (errA true)))
  (hT : U.heap[qa]? = some (.cells #[.int .i64 T.op, .int .i64 T.n, .string T.text, .slice ka T.kids.length kc, .slice pa T.pats.length pc] 32 (0, 0))) (hC : U.heap[qc]? = some (.cells #[c0, c1, c2, c3, c4] 32 (0, 0)))
  (c30 : ∀ w, Below U.heap.size U w → Calls Tryz.prog 30 #[.agg #[.int .i64 T.op, .int .i64 T.n, .string T.text, .slice ka T.kids.length kc, .slice pa T.pats.length pc]] w fun e w' => e = .returned (.bool true) ∧ Below w.heap.size w w')
  (c54 : ∀ w, Below U.heap.size U w → Calls Tryz.prog 54 #[.agg #[.int .i64 T.op, .int .i64 T.n, .string T.text, .slice ka T.kids.length kc, .slice pa T.pats.length pc]] w fun e w' => (∃ v', e = .returned v' ∧ TmAt w'.heap.size w' (canR T) v') ∧ Below w.heap.size w w')
  (c45 : ∀ w v, Below U.heap.size U w → TmAt w.heap.size w (canR T) v → Calls Tryz.prog 45 #[.agg #[c0, c1, c2, c3, c4], v] w fun e w' => e = .returned (.bool true) ∧ Below w.heap.size w w')
  (hK : ∀ (a' : Act) (w' : World), a'.tmps.size = 84 → a'.defers = a.defers → (∀ k, k < 29 → a'.tmps[k]? = a.tmps[k]?) → (∀ k, 54 < k → a'.tmps[k]? = a.tmps[k]?) → a'.tmps[54]? = some (.bool false) → Below U.heap.size U w' → Q .normal a' w') :
  (Code.region 5 ops11 true).wp Tryz.prog Q a U := by
 have HK := lh hK; have HH2 := lh h2; have HH7 := lh h7; have HH8 := lh h8; have HSZ := lh hsz
 have C30 := lh c30; have HT := lh hT; have HC := lh hC
 have C54 := lh c54; have C45 := lh c45
 clear hK h2 h7 h8 hsz c30 hT hC c54 c45
 refine wp_region_any (by kernel_rfl) ?_
 refine wpAny_inv2 (by kernel_rfl) 25 nxt11 ?hz rfl (F11t T ka pa kc pc c0 c1 c2 c3 c4) (B11 U qa qc (.int .i64 (errA true)) a.defers a) Ext11 ?hstep (fun i j a w a' w' h1 h2 h3 hB h5 h6 => F11t_stab _ _ _ _ _ _ _ _ _ _ i j a w a' w' h1 h3 h5 h6) ?hlast _ (List.range 26) _ a _ (by decide) (by decide) ?hu (by decide) ?hcl ?hB ?hF
 case hz => exact fun j hj => waits11 j hj
 case hu => exact fun j hj => List.mem_range.2 (rep_true hj)
 case hB => exact ⟨HSZ.o, rfl, HH2.o, HH7.o, HH8.o, fun _ _ => rfl, fun _ _ => rfl, below_drew _ _⟩
 case hcl => exact fun i j hi _ => (rep_false hi).elim
 case hF => exact fun j hj => (rep_false hj).elim
 case hstep =>
  intro i a1 w1 hi hB hF
  obtain ⟨hsz, -, g2, g7, g8, -, -, hbw⟩ := id hB
  have q2 := tmp_get g2 (by omega)
  have q7 := tmp_get g7 (by omega)
  have q8 := tmp_get g8 (by omega)
  have h : i = 0 ∨ i = 1 ∨ i = 2 ∨ i = 3 ∨ i = 4 ∨ i = 5 ∨ i = 6 ∨ i = 7 ∨ i = 8 ∨ i = 9 ∨ i = 10 ∨ i = 11 ∨ i = 12 ∨ i = 13 ∨ i = 14 ∨ i = 15 ∨ i = 16 ∨ i = 17 ∨ i = 18 ∨ i = 19 ∨ i = 20 ∨ i = 21 ∨ i = 22 ∨ i = 23 ∨ i = 24 := by omega
  rcases h with rfl | rfl | rfl | rfl | rfl | rfl | rfl | rfl | rfl | rfl | rfl | rfl | rfl | rfl | rfl | rfl | rfl | rfl | rfl | rfl | rfl | rfl | rfl | rfl | rfl
  ·refine wpOp_step (o := r11x0) rfl fun KK hKK => ?_
   go_simp
   exact hKK _ _ ⟨B11_put U _ _ hB (by decide) (by decide) (Below.refl _ _), put_same (by omega), .inl ⟨_, rfl⟩, Below.refl _ _⟩
  ·refine wpOp_step (o := r11x1) rfl fun KK hKK => ?_
   obtain ⟨z0, z1, z2, z3, z4⟩ := cells5 (bget' hbw HT.o)
   go_simp
   exact hKK _ _ ⟨B11_put U _ _ hB (by decide) (by decide) (Below.refl _ _), put_same (by omega), .inl ⟨_, rfl⟩, Below.refl _ _⟩
  ·refine wpOp_step (o := r11x2) rfl fun KK hKK => ?_
   have k30 : a1.tmps[30]? = some (.agg #[.int .i64 T.op, .int .i64 T.n, .string T.text, .slice ka T.kids.length kc, .slice pa T.pats.length pc]) := hF 1 (by kernel_rfl)
   have g30 := tmp_get k30 (by omega)
   go_simp
   refine (C30.o w1 hbw).mono ?_
   rintro e w2 ⟨rfl, hb2⟩
   exact hKK _ _ ⟨B11_put U _ _ hB (by decide) (by decide) hb2, put_same (by omega), .inl ⟨_, rfl⟩, hb2⟩
  ·refine wpOp_step (o := r11x3) rfl fun KK hKK => ?_
   have k31 : a1.tmps[31]? = some (.bool true) := hF 2 (by kernel_rfl)
   have g31 := tmp_get k31 (by omega)
   go_simp
   refine (errA_any _ w1).mono ?_
   rintro e w2 ⟨rfl, hb2⟩
   exact hKK _ _ ⟨B11_put U _ _ hB (by decide) (by decide) hb2, put_same (by omega), .inl ⟨_, rfl⟩, hb2⟩
  ·refine wpOp_step (o := r11x4) rfl fun KK hKK => ?_
   have k29 : a1.tmps[29]? = some (.int .i64 (errA true)) := hF 0 (by kernel_rfl)
   have g29 := tmp_get k29 (by omega)
   have k32 : a1.tmps[32]? = some (.int .i64 (errA true)) := hF 3 (by kernel_rfl)
   have g32 := tmp_get k32 (by omega)
   go_simp
   exact hKK _ _ ⟨B11_put U _ _ hB (by decide) (by decide) (Below.refl _ _), put_same (by omega), .inl ⟨_, rfl⟩, Below.refl _ _⟩
  ·refine wpOp_step (o := r11x5) rfl fun KK hKK => ?_
   have k33 : a1.tmps[33]? = some (.bool false) := hF 4 (by kernel_rfl)
   have g33 := tmp_get k33 (by omega)
   go_simp
   exact hKK _ _ ⟨B11_put U _ _ hB (by decide) (by decide) (Below.refl _ _), put_same (by omega), .inl ⟨_, rfl⟩, Below.refl _ _⟩
  ·refine wpOp_step (o := r11x6) rfl fun KK hKK => ?_
   have k34 : a1.tmps[34]? = some (.bool false) := hF 5 (by kernel_rfl)
   have g34 := tmp_get k34 (by omega)
   obtain ⟨z0, z1, z2, z3, z4⟩ := cells5 (bget' hbw HT.o)
   go_simp
   rw [if_pos (by rw [show (ops11[5]?.bind fun x => x.dst) = some 34 from rfl]; simp [k34])]
   exact hKK _ _ ⟨B11_put U _ _ hB (by decide) (by decide) (Below.refl _ _), put_same (by omega), .inl ⟨_, rfl⟩, Below.refl _ _⟩
  ·refine wpOp_step (o := r11x7) rfl fun KK hKK => ?_
   have k34 : a1.tmps[34]? = some (.bool false) := hF 5 (by kernel_rfl)
   have g34 := tmp_get k34 (by omega)
   have k35 : a1.tmps[35]? = some (.agg #[.int .i64 T.op, .int .i64 T.n, .string T.text, .slice ka T.kids.length kc, .slice pa T.pats.length pc]) := hF 6 (by kernel_rfl)
   have g35 := tmp_get k35 (by omega)
   go_simp
   rw [if_pos (by rw [show (ops11[5]?.bind fun x => x.dst) = some 34 from rfl]; simp [k34])]
   refine (C30.o w1 hbw).mono ?_
   rintro e w2 ⟨rfl, hb2⟩
   exact hKK _ _ ⟨B11_put U _ _ hB (by decide) (by decide) hb2, put_same (by omega), .inl ⟨_, rfl⟩, hb2⟩
  ·refine wpOp_step (o := r11x8) rfl fun KK hKK => ?_
   have k34 : a1.tmps[34]? = some (.bool false) := hF 5 (by kernel_rfl)
   have g34 := tmp_get k34 (by omega)
   have k36 : a1.tmps[36]? = some (.bool true) := hF 7 (by kernel_rfl)
   have g36 := tmp_get k36 (by omega)
   go_simp
   rw [if_pos (by rw [show (ops11[5]?.bind fun x => x.dst) = some 34 from rfl]; simp [k34])]
   exact hKK _ _ ⟨B11_put U _ _ hB (by decide) (by decide) (Below.refl _ _), put_same (by omega), .inl ⟨_, rfl⟩, Below.refl _ _⟩
  ·refine wpOp_step (o := r11x9) rfl fun KK hKK => ?_
   have k34 : a1.tmps[34]? = some (.bool false) := hF 5 (by kernel_rfl)
   have g34 := tmp_get k34 (by omega)
   have k37 : a1.tmps[37]? = some (.bool false) := hF 8 (by kernel_rfl)
   have g37 := tmp_get k37 (by omega)
   go_simp
   rw [if_pos (by rw [show (ops11[5]?.bind fun x => x.dst) = some 34 from rfl]; simp [k34])]
   exact hKK _ _ ⟨B11_put U _ _ hB (by decide) (by decide) (Below.refl _ _), put_same (by omega), .inl ⟨_, rfl⟩, Below.refl _ _⟩
  ·refine wpOp_step (o := r11x10) rfl fun KK hKK => ?_
   have k38 : a1.tmps[38]? = some (.bool false) := hF 9 (by kernel_rfl)
   have g38 := tmp_get k38 (by omega)
   obtain ⟨z0, z1, z2, z3, z4⟩ := cells5 (bget' hbw HC.o)
   go_simp
   rw [if_neg (by rw [show (ops11[9]?.bind fun x => x.dst) = some 38 from rfl]; simp [k38])]
   exact hKK _ _ ⟨B11_put U _ _ hB (by decide) (by decide) (Below.refl _ _), trivial, .inl ⟨_, rfl⟩, Below.refl _ _⟩
  ·refine wpOp_step (o := r11x11) rfl fun KK hKK => ?_
   have k38 : a1.tmps[38]? = some (.bool false) := hF 9 (by kernel_rfl)
   have g38 := tmp_get k38 (by omega)
   go_simp
   rw [if_neg (by rw [show (ops11[9]?.bind fun x => x.dst) = some 38 from rfl]; simp [k38])]
   exact hKK _ _ ⟨B11_put U _ _ hB (by decide) (by decide) (Below.refl _ _), trivial, .inl ⟨_, rfl⟩, Below.refl _ _⟩
  ·refine wpOp_step (o := r11x12) rfl fun KK hKK => ?_
   have k38 : a1.tmps[38]? = some (.bool false) := hF 9 (by kernel_rfl)
   have g38 := tmp_get k38 (by omega)
   go_simp
   rw [if_neg (by rw [show (ops11[9]?.bind fun x => x.dst) = some 38 from rfl]; simp [k38])]
   exact hKK _ _ ⟨B11_put U _ _ hB (by decide) (by decide) (Below.refl _ _), trivial, .inl ⟨_, rfl⟩, Below.refl _ _⟩
  ·refine wpOp_step (o := r11x13) rfl fun KK hKK => ?_
   have k34 : a1.tmps[34]? = some (.bool false) := hF 5 (by kernel_rfl)
   have g34 := tmp_get k34 (by omega)
   have k38 : a1.tmps[38]? = some (.bool false) := hF 9 (by kernel_rfl)
   have g38 := tmp_get k38 (by omega)
   go_simp
   rw [if_pos (by rw [show (ops11[5]?.bind fun x => x.dst) = some 34 from rfl]; simp [k34])]
   exact hKK _ _ ⟨B11_put U _ _ hB (by decide) (by decide) (Below.refl _ _), put_same (by omega), .inl ⟨_, rfl⟩, Below.refl _ _⟩
  ·refine wpOp_step (o := r11x14) rfl fun KK hKK => ?_
   have k34 : a1.tmps[34]? = some (.bool false) := hF 5 (by kernel_rfl)
   have g34 := tmp_get k34 (by omega)
   have k42 : a1.tmps[42]? = some (.bool false) := hF 13 (by kernel_rfl)
   have g42 := tmp_get k42 (by omega)
   go_simp
   exact hKK _ _ ⟨B11_put U _ _ hB (by decide) (by decide) (Below.refl _ _), put_same (by omega), .inl ⟨_, rfl⟩, Below.refl _ _⟩
  ·refine wpOp_step (o := r11x15) rfl fun KK hKK => ?_
   have k43 : a1.tmps[43]? = some (.bool false) := hF 14 (by kernel_rfl)
   have g43 := tmp_get k43 (by omega)
   go_simp
   exact hKK _ _ ⟨B11_put U _ _ hB (by decide) (by decide) (Below.refl _ _), put_same (by omega), .inl ⟨_, rfl⟩, Below.refl _ _⟩
  ·refine wpOp_step (o := r11x16) rfl fun KK hKK => ?_
   have k44 : a1.tmps[44]? = some (.bool false) := hF 15 (by kernel_rfl)
   have g44 := tmp_get k44 (by omega)
   obtain ⟨z0, z1, z2, z3, z4⟩ := cells5 (bget' hbw HT.o)
   go_simp
   rw [if_pos (by rw [show (ops11[15]?.bind fun x => x.dst) = some 44 from rfl]; simp [k44])]
   exact hKK _ _ ⟨B11_put U _ _ hB (by decide) (by decide) (Below.refl _ _), put_same (by omega), .inl ⟨_, rfl⟩, Below.refl _ _⟩
  ·refine wpOp_step (o := r11x17) rfl fun KK hKK => ?_
   have k44 : a1.tmps[44]? = some (.bool false) := hF 15 (by kernel_rfl)
   have g44 := tmp_get k44 (by omega)
   have k45 : a1.tmps[45]? = some (.agg #[.int .i64 T.op, .int .i64 T.n, .string T.text, .slice ka T.kids.length kc, .slice pa T.pats.length pc]) := hF 16 (by kernel_rfl)
   have g45 := tmp_get k45 (by omega)
   go_simp
   rw [if_pos (by rw [show (ops11[15]?.bind fun x => x.dst) = some 44 from rfl]; simp [k44])]
   refine (C30.o w1 hbw).mono ?_
   rintro e w2 ⟨rfl, hb2⟩
   exact hKK _ _ ⟨B11_put U _ _ hB (by decide) (by decide) hb2, put_same (by omega), .inl ⟨_, rfl⟩, hb2⟩
  ·refine wpOp_step (o := r11x18) rfl fun KK hKK => ?_
   have k44 : a1.tmps[44]? = some (.bool false) := hF 15 (by kernel_rfl)
   have g44 := tmp_get k44 (by omega)
   have k46 : a1.tmps[46]? = some (.bool true) := hF 17 (by kernel_rfl)
   have g46 := tmp_get k46 (by omega)
   go_simp
   rw [if_pos (by rw [show (ops11[15]?.bind fun x => x.dst) = some 44 from rfl]; simp [k44])]
   exact hKK _ _ ⟨B11_put U _ _ hB (by decide) (by decide) (Below.refl _ _), put_same (by omega), .inl ⟨_, rfl⟩, Below.refl _ _⟩
  ·refine wpOp_step (o := r11x19) rfl fun KK hKK => ?_
   have k47 : a1.tmps[47]? = some (.bool true) := hF 18 (by kernel_rfl)
   have g47 := tmp_get k47 (by omega)
   obtain ⟨z0, z1, z2, z3, z4⟩ := cells5 (bget' hbw HC.o)
   go_simp
   rw [if_pos (by rw [show (ops11[18]?.bind fun x => x.dst) = some 47 from rfl]; simp [k47])]
   exact hKK _ _ ⟨B11_put U _ _ hB (by decide) (by decide) (Below.refl _ _), put_same (by omega), .inl ⟨_, rfl⟩, Below.refl _ _⟩
  ·refine wpOp_step (o := r11x20) rfl fun KK hKK => ?_
   have k47 : a1.tmps[47]? = some (.bool true) := hF 18 (by kernel_rfl)
   have g47 := tmp_get k47 (by omega)
   obtain ⟨z0, z1, z2, z3, z4⟩ := cells5 (bget' hbw HT.o)
   go_simp
   rw [if_pos (by rw [show (ops11[18]?.bind fun x => x.dst) = some 47 from rfl]; simp [k47])]
   exact hKK _ _ ⟨B11_put U _ _ hB (by decide) (by decide) (Below.refl _ _), put_same (by omega), .inl ⟨_, rfl⟩, Below.refl _ _⟩
  ·refine wpOp_step (o := r11x21) rfl fun KK hKK => ?_
   have k47 : a1.tmps[47]? = some (.bool true) := hF 18 (by kernel_rfl)
   have g47 := tmp_get k47 (by omega)
   have k49 : a1.tmps[49]? = some (.agg #[.int .i64 T.op, .int .i64 T.n, .string T.text, .slice ka T.kids.length kc, .slice pa T.pats.length pc]) := hF 20 (by kernel_rfl)
   have g49 := tmp_get k49 (by omega)
   go_simp
   rw [if_pos (by rw [show (ops11[18]?.bind fun x => x.dst) = some 47 from rfl]; simp [k47])]
   refine (C54.o w1 hbw).mono ?_
   rintro e w2 ⟨⟨v5, rfl, h5⟩, hb2⟩
   exact hKK _ _ ⟨B11_put U _ _ hB (by decide) (by decide) hb2, ⟨_, put_same (by omega), h5⟩, .inl ⟨_, rfl⟩, hb2⟩
  ·refine wpOp_step (o := r11x22) rfl fun KK hKK => ?_
   have k47 : a1.tmps[47]? = some (.bool true) := hF 18 (by kernel_rfl)
   have g47 := tmp_get k47 (by omega)
   have k48 : a1.tmps[48]? = some (.agg #[c0, c1, c2, c3, c4]) := hF 19 (by kernel_rfl)
   have g48 := tmp_get k48 (by omega)
   obtain ⟨vc, k50, hvc⟩ := (hF 21 (by kernel_rfl) : ∃ v, a1.tmps[50]? = some v ∧ TmAt w1.heap.size w1 (canR T) v)
   have g50 := tmp_get k50 (by omega)
   go_simp
   rw [if_pos (by rw [show (ops11[18]?.bind fun x => x.dst) = some 47 from rfl]; simp [k47])]
   refine (C45.o w1 vc hbw hvc).mono ?_
   rintro e w2 ⟨rfl, hb2⟩
   exact hKK _ _ ⟨B11_put U _ _ hB (by decide) (by decide) hb2, put_same (by omega), .inl ⟨_, rfl⟩, hb2⟩
  ·refine wpOp_step (o := r11x23) rfl fun KK hKK => ?_
   have k47 : a1.tmps[47]? = some (.bool true) := hF 18 (by kernel_rfl)
   have g47 := tmp_get k47 (by omega)
   have k51 : a1.tmps[51]? = some (.bool true) := hF 22 (by kernel_rfl)
   have g51 := tmp_get k51 (by omega)
   go_simp
   rw [if_pos (by rw [show (ops11[18]?.bind fun x => x.dst) = some 47 from rfl]; simp [k47])]
   exact hKK _ _ ⟨B11_put U _ _ hB (by decide) (by decide) (Below.refl _ _), put_same (by omega), .inl ⟨_, rfl⟩, Below.refl _ _⟩
  ·refine wpOp_step (o := r11x24) rfl fun KK hKK => ?_
   have k44 : a1.tmps[44]? = some (.bool false) := hF 15 (by kernel_rfl)
   have g44 := tmp_get k44 (by omega)
   have k47 : a1.tmps[47]? = some (.bool true) := hF 18 (by kernel_rfl)
   have g47 := tmp_get k47 (by omega)
   have k52 : a1.tmps[52]? = some (.bool false) := hF 23 (by kernel_rfl)
   have g52 := tmp_get k52 (by omega)
   go_simp
   rw [if_pos (by rw [show (ops11[15]?.bind fun x => x.dst) = some 44 from rfl]; simp [k44])]
   exact hKK _ _ ⟨B11_put U _ _ hB (by decide) (by decide) (Below.refl _ _), put_same (by omega), .inl ⟨_, rfl⟩, Below.refl _ _⟩
 case hlast =>
  intro a1 w1 hB hF
  obtain ⟨hsz, hdf, g2, g7, g8, gk, gl, hbw⟩ := hB
  have k44 : a1.tmps[44]? = some (.bool false) := hF 15 (by omega)
  have k53 : a1.tmps[53]? = some (.bool false) := hF 24 (by omega)
  have g44 := tmp_get k44 (by omega)
  have g53 := tmp_get k53 (by omega)
  refine wpOp_step (o := r11x25) rfl fun KK hKK => ?_
  go_simp
  exact hKK _ _ (HK.o _ _ (by simp; exact hsz) rfl (fun k hk => (put_get (by omega)).trans (gk k hk)) (fun k hk => (put_get (by omega)).trans (gl k hk)) (put_same (by omega)) hbw)
set_option maxHeartbeats 8000000 in
set_option maxRecDepth 100000 in
theorem reg11f {Q : Exit → Act → World → Prop} {a : Act} {U : World} {qa qc : Nat} {T : Tm} {ka pa : Option Addr} {kc pc : Nat} {c0 c1 c2 c3 c4 : Value}
  (hsz : a.tmps.size = 84) (h2 : a.tmps[2]? = some (.pointer (some ⟨qa, 0, none⟩))) (h7 : a.tmps[7]? = some (.pointer (some ⟨qc, 0, none⟩))) (h8 : a.tmps[8]? = some (.int .i64 (errA false)))
  (hT : U.heap[qa]? = some (.cells #[.int .i64 T.op, .int .i64 T.n, .string T.text, .slice ka T.kids.length kc, .slice pa T.pats.length pc] 32 (0, 0))) (hC : U.heap[qc]? = some (.cells #[c0, c1, c2, c3, c4] 32 (0, 0)))
  (c30 : ∀ w, Below U.heap.size U w → Calls Tryz.prog 30 #[.agg #[.int .i64 T.op, .int .i64 T.n, .string T.text, .slice ka T.kids.length kc, .slice pa T.pats.length pc]] w fun e w' => e = .returned (.bool false) ∧ Below w.heap.size w w')
  (c41 : ∀ w, Below U.heap.size U w → Calls Tryz.prog 41 #[.agg #[c0, c1, c2, c3, c4]] w fun e w' => e = .returned (.bool true) ∧ Below w.heap.size w w')
  (hK : ∀ (a' : Act) (w' : World), a'.tmps.size = 84 → a'.defers = a.defers → (∀ k, k < 29 → a'.tmps[k]? = a.tmps[k]?) → (∀ k, 54 < k → a'.tmps[k]? = a.tmps[k]?) → a'.tmps[54]? = some (.bool false) → Below U.heap.size U w' → Q .normal a' w') :
  (Code.region 5 ops11 true).wp Tryz.prog Q a U := by
 have HK := lh hK; have HH2 := lh h2; have HH7 := lh h7; have HH8 := lh h8; have HSZ := lh hsz
 have C30 := lh c30; have HT := lh hT; have HC := lh hC
 have C41 := lh c41
 clear hK h2 h7 h8 hsz c30 hT hC c41
 refine wp_region_any (by kernel_rfl) ?_
 refine wpAny_inv2 (by kernel_rfl) 25 nxt11 ?hz rfl (F11f T ka pa kc pc c0 c1 c2 c3 c4) (B11 U qa qc (.int .i64 (errA false)) a.defers a) Ext11 ?hstep (fun i j a w a' w' h1 h2 h3 hB h5 h6 => F11f_stab _ _ _ _ _ _ _ _ _ _ i j a w a' w' h1 h3 h5 h6) ?hlast _ (List.range 26) _ a _ (by decide) (by decide) ?hu (by decide) ?hcl ?hB ?hF
 case hz => exact fun j hj => waits11 j hj
 case hu => exact fun j hj => List.mem_range.2 (rep_true hj)
 case hB => exact ⟨HSZ.o, rfl, HH2.o, HH7.o, HH8.o, fun _ _ => rfl, fun _ _ => rfl, below_drew _ _⟩
 case hcl => exact fun i j hi _ => (rep_false hi).elim
 case hF => exact fun j hj => (rep_false hj).elim
 case hstep =>
  intro i a1 w1 hi hB hF
  obtain ⟨hsz, -, g2, g7, g8, -, -, hbw⟩ := id hB
  have q2 := tmp_get g2 (by omega)
  have q7 := tmp_get g7 (by omega)
  have q8 := tmp_get g8 (by omega)
  have h : i = 0 ∨ i = 1 ∨ i = 2 ∨ i = 3 ∨ i = 4 ∨ i = 5 ∨ i = 6 ∨ i = 7 ∨ i = 8 ∨ i = 9 ∨ i = 10 ∨ i = 11 ∨ i = 12 ∨ i = 13 ∨ i = 14 ∨ i = 15 ∨ i = 16 ∨ i = 17 ∨ i = 18 ∨ i = 19 ∨ i = 20 ∨ i = 21 ∨ i = 22 ∨ i = 23 ∨ i = 24 := by omega
  rcases h with rfl | rfl | rfl | rfl | rfl | rfl | rfl | rfl | rfl | rfl | rfl | rfl | rfl | rfl | rfl | rfl | rfl | rfl | rfl | rfl | rfl | rfl | rfl | rfl | rfl
  ·refine wpOp_step (o := r11x0) rfl fun KK hKK => ?_
   go_simp
   exact hKK _ _ ⟨B11_put U _ _ hB (by decide) (by decide) (Below.refl _ _), put_same (by omega), .inl ⟨_, rfl⟩, Below.refl _ _⟩
  ·refine wpOp_step (o := r11x1) rfl fun KK hKK => ?_
   obtain ⟨z0, z1, z2, z3, z4⟩ := cells5 (bget' hbw HT.o)
   go_simp
   exact hKK _ _ ⟨B11_put U _ _ hB (by decide) (by decide) (Below.refl _ _), put_same (by omega), .inl ⟨_, rfl⟩, Below.refl _ _⟩
  ·refine wpOp_step (o := r11x2) rfl fun KK hKK => ?_
   have k30 : a1.tmps[30]? = some (.agg #[.int .i64 T.op, .int .i64 T.n, .string T.text, .slice ka T.kids.length kc, .slice pa T.pats.length pc]) := hF 1 (by kernel_rfl)
   have g30 := tmp_get k30 (by omega)
   go_simp
   refine (C30.o w1 hbw).mono ?_
   rintro e w2 ⟨rfl, hb2⟩
   exact hKK _ _ ⟨B11_put U _ _ hB (by decide) (by decide) hb2, put_same (by omega), .inl ⟨_, rfl⟩, hb2⟩
  ·refine wpOp_step (o := r11x3) rfl fun KK hKK => ?_
   have k31 : a1.tmps[31]? = some (.bool false) := hF 2 (by kernel_rfl)
   have g31 := tmp_get k31 (by omega)
   go_simp
   refine (errA_any _ w1).mono ?_
   rintro e w2 ⟨rfl, hb2⟩
   exact hKK _ _ ⟨B11_put U _ _ hB (by decide) (by decide) hb2, put_same (by omega), .inl ⟨_, rfl⟩, hb2⟩
  ·refine wpOp_step (o := r11x4) rfl fun KK hKK => ?_
   have k29 : a1.tmps[29]? = some (.int .i64 (errA false)) := hF 0 (by kernel_rfl)
   have g29 := tmp_get k29 (by omega)
   have k32 : a1.tmps[32]? = some (.int .i64 (errA false)) := hF 3 (by kernel_rfl)
   have g32 := tmp_get k32 (by omega)
   go_simp
   exact hKK _ _ ⟨B11_put U _ _ hB (by decide) (by decide) (Below.refl _ _), put_same (by omega), .inl ⟨_, rfl⟩, Below.refl _ _⟩
  ·refine wpOp_step (o := r11x5) rfl fun KK hKK => ?_
   have k33 : a1.tmps[33]? = some (.bool false) := hF 4 (by kernel_rfl)
   have g33 := tmp_get k33 (by omega)
   go_simp
   exact hKK _ _ ⟨B11_put U _ _ hB (by decide) (by decide) (Below.refl _ _), put_same (by omega), .inl ⟨_, rfl⟩, Below.refl _ _⟩
  ·refine wpOp_step (o := r11x6) rfl fun KK hKK => ?_
   have k34 : a1.tmps[34]? = some (.bool false) := hF 5 (by kernel_rfl)
   have g34 := tmp_get k34 (by omega)
   obtain ⟨z0, z1, z2, z3, z4⟩ := cells5 (bget' hbw HT.o)
   go_simp
   rw [if_pos (by rw [show (ops11[5]?.bind fun x => x.dst) = some 34 from rfl]; simp [k34])]
   exact hKK _ _ ⟨B11_put U _ _ hB (by decide) (by decide) (Below.refl _ _), put_same (by omega), .inl ⟨_, rfl⟩, Below.refl _ _⟩
  ·refine wpOp_step (o := r11x7) rfl fun KK hKK => ?_
   have k34 : a1.tmps[34]? = some (.bool false) := hF 5 (by kernel_rfl)
   have g34 := tmp_get k34 (by omega)
   have k35 : a1.tmps[35]? = some (.agg #[.int .i64 T.op, .int .i64 T.n, .string T.text, .slice ka T.kids.length kc, .slice pa T.pats.length pc]) := hF 6 (by kernel_rfl)
   have g35 := tmp_get k35 (by omega)
   go_simp
   rw [if_pos (by rw [show (ops11[5]?.bind fun x => x.dst) = some 34 from rfl]; simp [k34])]
   refine (C30.o w1 hbw).mono ?_
   rintro e w2 ⟨rfl, hb2⟩
   exact hKK _ _ ⟨B11_put U _ _ hB (by decide) (by decide) hb2, put_same (by omega), .inl ⟨_, rfl⟩, hb2⟩
  ·refine wpOp_step (o := r11x8) rfl fun KK hKK => ?_
   have k34 : a1.tmps[34]? = some (.bool false) := hF 5 (by kernel_rfl)
   have g34 := tmp_get k34 (by omega)
   have k36 : a1.tmps[36]? = some (.bool false) := hF 7 (by kernel_rfl)
   have g36 := tmp_get k36 (by omega)
   go_simp
   rw [if_pos (by rw [show (ops11[5]?.bind fun x => x.dst) = some 34 from rfl]; simp [k34])]
   exact hKK _ _ ⟨B11_put U _ _ hB (by decide) (by decide) (Below.refl _ _), put_same (by omega), .inl ⟨_, rfl⟩, Below.refl _ _⟩
  ·refine wpOp_step (o := r11x9) rfl fun KK hKK => ?_
   have k34 : a1.tmps[34]? = some (.bool false) := hF 5 (by kernel_rfl)
   have g34 := tmp_get k34 (by omega)
   have k37 : a1.tmps[37]? = some (.bool true) := hF 8 (by kernel_rfl)
   have g37 := tmp_get k37 (by omega)
   go_simp
   rw [if_pos (by rw [show (ops11[5]?.bind fun x => x.dst) = some 34 from rfl]; simp [k34])]
   exact hKK _ _ ⟨B11_put U _ _ hB (by decide) (by decide) (Below.refl _ _), put_same (by omega), .inl ⟨_, rfl⟩, Below.refl _ _⟩
  ·refine wpOp_step (o := r11x10) rfl fun KK hKK => ?_
   have k38 : a1.tmps[38]? = some (.bool true) := hF 9 (by kernel_rfl)
   have g38 := tmp_get k38 (by omega)
   obtain ⟨z0, z1, z2, z3, z4⟩ := cells5 (bget' hbw HC.o)
   go_simp
   rw [if_pos (by rw [show (ops11[9]?.bind fun x => x.dst) = some 38 from rfl]; simp [k38])]
   exact hKK _ _ ⟨B11_put U _ _ hB (by decide) (by decide) (Below.refl _ _), put_same (by omega), .inl ⟨_, rfl⟩, Below.refl _ _⟩
  ·refine wpOp_step (o := r11x11) rfl fun KK hKK => ?_
   have k38 : a1.tmps[38]? = some (.bool true) := hF 9 (by kernel_rfl)
   have g38 := tmp_get k38 (by omega)
   have k39 : a1.tmps[39]? = some (.agg #[c0, c1, c2, c3, c4]) := hF 10 (by kernel_rfl)
   have g39 := tmp_get k39 (by omega)
   go_simp
   rw [if_pos (by rw [show (ops11[9]?.bind fun x => x.dst) = some 38 from rfl]; simp [k38])]
   refine (C41.o w1 hbw).mono ?_
   rintro e w2 ⟨rfl, hb2⟩
   exact hKK _ _ ⟨B11_put U _ _ hB (by decide) (by decide) hb2, put_same (by omega), .inl ⟨_, rfl⟩, hb2⟩
  ·refine wpOp_step (o := r11x12) rfl fun KK hKK => ?_
   have k38 : a1.tmps[38]? = some (.bool true) := hF 9 (by kernel_rfl)
   have g38 := tmp_get k38 (by omega)
   have k40 : a1.tmps[40]? = some (.bool true) := hF 11 (by kernel_rfl)
   have g40 := tmp_get k40 (by omega)
   go_simp
   rw [if_pos (by rw [show (ops11[9]?.bind fun x => x.dst) = some 38 from rfl]; simp [k38])]
   exact hKK _ _ ⟨B11_put U _ _ hB (by decide) (by decide) (Below.refl _ _), put_same (by omega), .inl ⟨_, rfl⟩, Below.refl _ _⟩
  ·refine wpOp_step (o := r11x13) rfl fun KK hKK => ?_
   have k34 : a1.tmps[34]? = some (.bool false) := hF 5 (by kernel_rfl)
   have g34 := tmp_get k34 (by omega)
   have k38 : a1.tmps[38]? = some (.bool true) := hF 9 (by kernel_rfl)
   have g38 := tmp_get k38 (by omega)
   have k41 : a1.tmps[41]? = some (.bool false) := hF 12 (by kernel_rfl)
   have g41 := tmp_get k41 (by omega)
   go_simp
   rw [if_pos (by rw [show (ops11[5]?.bind fun x => x.dst) = some 34 from rfl]; simp [k34])]
   exact hKK _ _ ⟨B11_put U _ _ hB (by decide) (by decide) (Below.refl _ _), put_same (by omega), .inl ⟨_, rfl⟩, Below.refl _ _⟩
  ·refine wpOp_step (o := r11x14) rfl fun KK hKK => ?_
   have k34 : a1.tmps[34]? = some (.bool false) := hF 5 (by kernel_rfl)
   have g34 := tmp_get k34 (by omega)
   have k42 : a1.tmps[42]? = some (.bool false) := hF 13 (by kernel_rfl)
   have g42 := tmp_get k42 (by omega)
   go_simp
   exact hKK _ _ ⟨B11_put U _ _ hB (by decide) (by decide) (Below.refl _ _), put_same (by omega), .inl ⟨_, rfl⟩, Below.refl _ _⟩
  ·refine wpOp_step (o := r11x15) rfl fun KK hKK => ?_
   have k43 : a1.tmps[43]? = some (.bool false) := hF 14 (by kernel_rfl)
   have g43 := tmp_get k43 (by omega)
   go_simp
   exact hKK _ _ ⟨B11_put U _ _ hB (by decide) (by decide) (Below.refl _ _), put_same (by omega), .inl ⟨_, rfl⟩, Below.refl _ _⟩
  ·refine wpOp_step (o := r11x16) rfl fun KK hKK => ?_
   have k44 : a1.tmps[44]? = some (.bool false) := hF 15 (by kernel_rfl)
   have g44 := tmp_get k44 (by omega)
   obtain ⟨z0, z1, z2, z3, z4⟩ := cells5 (bget' hbw HT.o)
   go_simp
   rw [if_pos (by rw [show (ops11[15]?.bind fun x => x.dst) = some 44 from rfl]; simp [k44])]
   exact hKK _ _ ⟨B11_put U _ _ hB (by decide) (by decide) (Below.refl _ _), put_same (by omega), .inl ⟨_, rfl⟩, Below.refl _ _⟩
  ·refine wpOp_step (o := r11x17) rfl fun KK hKK => ?_
   have k44 : a1.tmps[44]? = some (.bool false) := hF 15 (by kernel_rfl)
   have g44 := tmp_get k44 (by omega)
   have k45 : a1.tmps[45]? = some (.agg #[.int .i64 T.op, .int .i64 T.n, .string T.text, .slice ka T.kids.length kc, .slice pa T.pats.length pc]) := hF 16 (by kernel_rfl)
   have g45 := tmp_get k45 (by omega)
   go_simp
   rw [if_pos (by rw [show (ops11[15]?.bind fun x => x.dst) = some 44 from rfl]; simp [k44])]
   refine (C30.o w1 hbw).mono ?_
   rintro e w2 ⟨rfl, hb2⟩
   exact hKK _ _ ⟨B11_put U _ _ hB (by decide) (by decide) hb2, put_same (by omega), .inl ⟨_, rfl⟩, hb2⟩
  ·refine wpOp_step (o := r11x18) rfl fun KK hKK => ?_
   have k44 : a1.tmps[44]? = some (.bool false) := hF 15 (by kernel_rfl)
   have g44 := tmp_get k44 (by omega)
   have k46 : a1.tmps[46]? = some (.bool false) := hF 17 (by kernel_rfl)
   have g46 := tmp_get k46 (by omega)
   go_simp
   rw [if_pos (by rw [show (ops11[15]?.bind fun x => x.dst) = some 44 from rfl]; simp [k44])]
   exact hKK _ _ ⟨B11_put U _ _ hB (by decide) (by decide) (Below.refl _ _), put_same (by omega), .inl ⟨_, rfl⟩, Below.refl _ _⟩
  ·refine wpOp_step (o := r11x19) rfl fun KK hKK => ?_
   have k47 : a1.tmps[47]? = some (.bool false) := hF 18 (by kernel_rfl)
   have g47 := tmp_get k47 (by omega)
   obtain ⟨z0, z1, z2, z3, z4⟩ := cells5 (bget' hbw HC.o)
   go_simp
   rw [if_neg (by rw [show (ops11[18]?.bind fun x => x.dst) = some 47 from rfl]; simp [k47])]
   exact hKK _ _ ⟨B11_put U _ _ hB (by decide) (by decide) (Below.refl _ _), trivial, .inl ⟨_, rfl⟩, Below.refl _ _⟩
  ·refine wpOp_step (o := r11x20) rfl fun KK hKK => ?_
   have k47 : a1.tmps[47]? = some (.bool false) := hF 18 (by kernel_rfl)
   have g47 := tmp_get k47 (by omega)
   obtain ⟨z0, z1, z2, z3, z4⟩ := cells5 (bget' hbw HT.o)
   go_simp
   rw [if_neg (by rw [show (ops11[18]?.bind fun x => x.dst) = some 47 from rfl]; simp [k47])]
   exact hKK _ _ ⟨B11_put U _ _ hB (by decide) (by decide) (Below.refl _ _), trivial, .inl ⟨_, rfl⟩, Below.refl _ _⟩
  ·refine wpOp_step (o := r11x21) rfl fun KK hKK => ?_
   have k47 : a1.tmps[47]? = some (.bool false) := hF 18 (by kernel_rfl)
   have g47 := tmp_get k47 (by omega)
   go_simp
   rw [if_neg (by rw [show (ops11[18]?.bind fun x => x.dst) = some 47 from rfl]; simp [k47])]
   exact hKK _ _ ⟨B11_put U _ _ hB (by decide) (by decide) (Below.refl _ _), trivial, .inl ⟨_, rfl⟩, Below.refl _ _⟩
  ·refine wpOp_step (o := r11x22) rfl fun KK hKK => ?_
   have k47 : a1.tmps[47]? = some (.bool false) := hF 18 (by kernel_rfl)
   have g47 := tmp_get k47 (by omega)
   go_simp
   rw [if_neg (by rw [show (ops11[18]?.bind fun x => x.dst) = some 47 from rfl]; simp [k47])]
   exact hKK _ _ ⟨B11_put U _ _ hB (by decide) (by decide) (Below.refl _ _), trivial, .inl ⟨_, rfl⟩, Below.refl _ _⟩
  ·refine wpOp_step (o := r11x23) rfl fun KK hKK => ?_
   have k47 : a1.tmps[47]? = some (.bool false) := hF 18 (by kernel_rfl)
   have g47 := tmp_get k47 (by omega)
   go_simp
   rw [if_neg (by rw [show (ops11[18]?.bind fun x => x.dst) = some 47 from rfl]; simp [k47])]
   exact hKK _ _ ⟨B11_put U _ _ hB (by decide) (by decide) (Below.refl _ _), trivial, .inl ⟨_, rfl⟩, Below.refl _ _⟩
  ·refine wpOp_step (o := r11x24) rfl fun KK hKK => ?_
   have k44 : a1.tmps[44]? = some (.bool false) := hF 15 (by kernel_rfl)
   have g44 := tmp_get k44 (by omega)
   have k47 : a1.tmps[47]? = some (.bool false) := hF 18 (by kernel_rfl)
   have g47 := tmp_get k47 (by omega)
   go_simp
   rw [if_pos (by rw [show (ops11[15]?.bind fun x => x.dst) = some 44 from rfl]; simp [k44])]
   exact hKK _ _ ⟨B11_put U _ _ hB (by decide) (by decide) (Below.refl _ _), put_same (by omega), .inl ⟨_, rfl⟩, Below.refl _ _⟩
 case hlast =>
  intro a1 w1 hB hF
  obtain ⟨hsz, hdf, g2, g7, g8, gk, gl, hbw⟩ := hB
  have k44 : a1.tmps[44]? = some (.bool false) := hF 15 (by omega)
  have k53 : a1.tmps[53]? = some (.bool false) := hF 24 (by omega)
  have g44 := tmp_get k44 (by omega)
  have g53 := tmp_get k53 (by omega)
  refine wpOp_step (o := r11x25) rfl fun KK hKK => ?_
  go_simp
  exact hKK _ _ (HK.o _ _ (by simp; exact hsz) rfl (fun k hk => (put_get (by omega)).trans (gk k hk)) (fun k hk => (put_get (by omega)).trans (gl k hk)) (put_same (by omega)) hbw)
end Go.Proofs.YtjpahjfjpkbcnaaGreat
namespace Go.Proofs.YtjpahjfjpkbcnaaGreat
open Go.Proofs Go.RowKit
theorem CanonEnd.ye1 {T : Tm} {w w' : World} {e : Ending} (h : CanonEnd T w e w') (hb : termB T = true) : ∃ nv, e = .returned (.tuple #[nv, .int .i64 0]) ∧ TmAt w'.heap.size w' (canM T) nv := by
 unfold CanonEnd at h
 rw [if_pos hb] at h
 obtain ⟨nv, h1, h2⟩ := h
 exact ⟨nv, h1, TmIn.to (fun b h => h.2) _ _ h2⟩
theorem CanonEnd.no1 {T : Tm} {w w' : World} {e : Ending} (h : CanonEnd T w e w') (hb : termB T = false) : e = .returned (.tuple #[zeroV, .int .i64 2]) := by
 unfold CanonEnd at h
 rw [if_neg (by rw [hb]; simp)] at h
 exact h
theorem AlikeEnd.ye1 {S T : Tm} {e : Ending} (h : AlikeEnd S T e) (hs : termB S = true) (ht : termB T = true) : e = .returned (.tuple #[.bool (eqM (canM S) (canM T)), .int .i64 0]) := by
 unfold AlikeEnd at h
 rw [hs, ht] at h
 exact h
theorem AlikeEnd.no1 {S T : Tm} {e : Ending} (h : AlikeEnd S T e) (hn : (termB S && termB T) = false) : e = .returned (.tuple #[.bool false, .int .i64 2]) := by
 unfold AlikeEnd at h
 rw [hn] at h
 exact h
theorem eqM_zero1 : eqM zeroM zeroM = true := eqM_refl _
theorem RS_of1 {T : Tm} (h : termB T = true) (hf : Fit T) : RS T := by
 have hs := termB_sub h hf
 refine ⟨okF_of T 1 hf.ok ?_, hf.len, hs.nb, hs.cnt⟩
 rw [List.all_eq_true]
 intro x hx
 obtain ⟨y, hy, rfl⟩ := List.mem_map.1 hx
 exact goM_all _ 0 h y hy
theorem canR_canM {T : Tm} (h : termB T = true) (hf : Fit T) : canR T = canM T := canR_eq h hf
def ds11 : List Nat := [29, 30, 31, 32, 33, 34, 35, 36, 37, 38, 39, 40, 41, 42, 43, 44, 45, 46, 47, 48, 49, 50, 51, 52, 53, 54]
set_option maxHeartbeats 32000000 in
set_option maxRecDepth 100000 in
theorem alikes_any (t q : Tm) (v qv : Value) (w : World) (ht : TmAt w.heap.size w t v) (hq : TmAt w.heap.size w q qv) :
  Calls Tryz.prog 11 #[v, qv] w fun e w' => e = .returned (.bool true) ∧ Below w.heap.size w w' := by
 obtain ⟨a, cap, a', cap', rfl, -⟩ := ht.parts
 obtain ⟨b, bcap, b', bcap', rfl, -⟩ := hq.parts
 obtain ⟨W, hW, hb, hs, hx2, hx3⟩ := two_boxes w #[.int .i64 t.op, .int .i64 t.n, .string t.text, .slice a t.kids.length cap, .slice a' t.pats.length cap'] #[.int .i64 q.op, .int .i64 q.n, .string q.text, .slice b q.kids.length bcap, .slice b' q.pats.length bcap'] 32
 have HT := lh ht; have HQ := lh hq
 replace HT := lh (TmAt.keep hb hb.size _ _ HT.o)
 replace HQ := lh (TmAt.keep hb hb.size _ _ HQ.o)
 have X2 := lh hx2; have X3 := lh hx3; have HV := lh hb
 clear ht hq hb hx2 hx3 hs
 go_enter Tryz.func11, Tryz.ntmps11
 go_upto_region 1 with fail
 rw [← hW]
 clear hW
 obtain ⟨c00, c01, c02, c03, c04⟩ := cells5 X2.o
 go_wp2_with fail
 refine (SmallTerm_any t _ W HT.o).mono ?_
 rintro e w1 ⟨rfl, hb⟩
 replace HV := lh (HV.o.trans (hb.mono HV.o.size))
 replace X2 := lh (bget' hb X2.o)
 replace X3 := lh (bget' hb X3.o)
 replace HT := lh (TmAt.keep hb hb.size _ _ HT.o)
 replace HQ := lh (TmAt.keep hb hb.size _ _ HQ.o)
 clear hb
 clear c00 c01 c02 c03 c04
 cases hs1 : SmallTermB t with
 | false =>
  go_wp2_with fail
  refine (known_any _).mono ?_
  rintro e wk ⟨rfl, hb⟩
  replace HV := lh (HV.o.trans (hb.mono HV.o.size))
  clear hb
  go_wp2
  go_ret
  exact ⟨rfl, HV.o⟩
 | true =>
 obtain ⟨c00, c01, c02, c03, c04⟩ := cells5 X3.o
 go_wp2_with fail
 refine (SmallTerm_any q _ w1 HQ.o).mono ?_
 rintro e w2 ⟨rfl, hb⟩
 replace HV := lh (HV.o.trans (hb.mono HV.o.size))
 replace X2 := lh (bget' hb X2.o)
 replace X3 := lh (bget' hb X3.o)
 replace HT := lh (TmAt.keep hb hb.size _ _ HT.o)
 replace HQ := lh (TmAt.keep hb hb.size _ _ HQ.o)
 clear hb
 clear c00 c01 c02 c03 c04
 cases hs2 : SmallTermB q with
 | false =>
  go_wp2_with fail
  refine (known_any _).mono ?_
  rintro e wk ⟨rfl, hb⟩
  replace HV := lh (HV.o.trans (hb.mono HV.o.size))
  clear hb
  go_wp2
  go_ret
  exact ⟨rfl, HV.o⟩
 | true =>
 have HF := SmallTerm_fit hs1; have HG := SmallTerm_fit hs2; clear hs1 hs2
 cases hHTB : termB t with
 | false =>
  have HTB := lh hHTB; clear hHTB
  obtain ⟨c00, c01, c02, c03, c04⟩ := cells5 X2.o
  obtain ⟨c10, c11, c12, c13, c14⟩ := cells5 X3.o
  go_wp2_with fail
  refine (Alike_any t q _ _ w2 HT.o HQ.o HF HG).mono ?_
  rintro e w3 ⟨he, hb⟩
  replace HV := lh (HV.o.trans (hb.mono HV.o.size))
  replace X2 := lh (bget' hb X2.o)
  replace X3 := lh (bget' hb X3.o)
  replace HT := lh (TmAt.keep hb hb.size _ _ HT.o)
  replace HQ := lh (TmAt.keep hb hb.size _ _ HQ.o)
  obtain rfl := AlikeEnd.no1 he (by rw [HTB.o]; rfl)
  clear hb
  clear c00 c01 c02 c03 c04 c10 c11 c12 c13 c14
  obtain ⟨c00, c01, c02, c03, c04⟩ := cells5 X2.o
  go_wp2_with fail
  refine (Canon_any t _ w3 HT.o HF).mono ?_
  rintro e w4 ⟨he, hb⟩
  replace HV := lh (HV.o.trans (hb.mono HV.o.size))
  replace X2 := lh (bget' hb X2.o)
  replace X3 := lh (bget' hb X3.o)
  replace HT := lh (TmAt.keep hb hb.size _ _ HT.o)
  replace HQ := lh (TmAt.keep hb hb.size _ _ HQ.o)
  obtain rfl := CanonEnd.no1 he HTB.o
  unfold zeroV
  clear hb
  clear c00 c01 c02 c03 c04
  go_upto_region 5 with fail
  have hb := (Below.refl _ w4).alloc (Nat.le_refl _) (.cells #[.int .i64 0, .int .i64 0, .string ⟨#[]⟩, .slice none 0 0, .slice none 0 0] 32)
  have X7n := lh (heap_alloc_new w4 (.cells #[.int .i64 0, .int .i64 0, .string ⟨#[]⟩, .slice none 0 0, .slice none 0 0] 32))
  replace HV := lh (HV.o.trans (hb.mono HV.o.size))
  replace X2 := lh (bget' hb X2.o)
  replace X3 := lh (bget' hb X3.o)
  replace HT := lh (TmAt.keep hb hb.size _ _ HT.o)
  replace HQ := lh (TmAt.keep hb hb.size _ _ HQ.o)
  clear hb
  generalize (w4.alloc (.cells #[.int .i64 0, .int .i64 0, .string ⟨#[]⟩, .slice none 0 0, .slice none 0 0] 32)) = w5 at *
  have X7 := X7n
  clear X7n
  go_upto_region 5 with fail
  refine reg11f (qa := w.heap.size) (T := t) rfl rfl rfl rfl X2.o X7.o (fun ww hw => by have := C30 t ww (TmAt.keep hw hw.size _ _ HT.o) HF.ok; rw [HTB.o] at this; exact this) (fun ww hw => by have := none_any zeroM _ ww (zeroM_at _ _); rw [eqM_zero1] at this; exact this) ?_
  intro a9 w6 g1 g2 gk gl g54 hb
  obtain ⟨ts, dsf⟩ := a9
  have e54 : ts.getD 54 undef = .bool false := getD_of g54
  have hkk := fun (k : Nat) (hk : k ∉ ds11) => dite (k < 29) (fun h1 => gk k h1) (fun h1 => dite (54 < k) (fun h2 => gl k h2) (fun h2 => absurd (show k ∈ ds11 by unfold ds11; simp only [List.mem_cons]; omega) hk))
  have hcan := tmps_canon _ ts ds11 (by rw [show ts.size = 84 from g1]; rfl) hkk
  clear hkk
  simp only [ds11, List.foldl_cons, List.foldl_nil, e54] at hcan
  generalize ts.getD 29 undef = u29 at hcan
  generalize ts.getD 30 undef = u30 at hcan
  generalize ts.getD 31 undef = u31 at hcan
  generalize ts.getD 32 undef = u32 at hcan
  generalize ts.getD 33 undef = u33 at hcan
  generalize ts.getD 34 undef = u34 at hcan
  generalize ts.getD 35 undef = u35 at hcan
  generalize ts.getD 36 undef = u36 at hcan
  generalize ts.getD 37 undef = u37 at hcan
  generalize ts.getD 38 undef = u38 at hcan
  generalize ts.getD 39 undef = u39 at hcan
  generalize ts.getD 40 undef = u40 at hcan
  generalize ts.getD 41 undef = u41 at hcan
  generalize ts.getD 42 undef = u42 at hcan
  generalize ts.getD 43 undef = u43 at hcan
  generalize ts.getD 44 undef = u44 at hcan
  generalize ts.getD 45 undef = u45 at hcan
  generalize ts.getD 46 undef = u46 at hcan
  generalize ts.getD 47 undef = u47 at hcan
  generalize ts.getD 48 undef = u48 at hcan
  generalize ts.getD 49 undef = u49 at hcan
  generalize ts.getD 50 undef = u50 at hcan
  generalize ts.getD 51 undef = u51 at hcan
  generalize ts.getD 52 undef = u52 at hcan
  generalize ts.getD 53 undef = u53 at hcan
  simp only [List.setIfInBounds_toArray, List.set_cons_zero, List.set_cons_succ] at hcan
  clear g1 gk gl g54 e54
  subst hcan
  simp only at g2
  subst g2
  replace HV := lh (HV.o.trans (hb.mono HV.o.size))
  replace X2 := lh (bget' hb X2.o)
  replace X3 := lh (bget' hb X3.o)
  replace X7 := lh (bget' hb X7.o)
  replace HT := lh (TmAt.keep hb hb.size _ _ HT.o)
  replace HQ := lh (TmAt.keep hb hb.size _ _ HQ.o)
  clear hb
  obtain ⟨c00, c01, c02, c03, c04⟩ := cells5 X2.o
  go_wp2_with fail
  refine (C30 t w6 HT.o HF.ok).mono ?_
  rintro e w7 ⟨rfl, hb⟩
  replace HV := lh (HV.o.trans (hb.mono HV.o.size))
  replace X2 := lh (bget' hb X2.o)
  replace X3 := lh (bget' hb X3.o)
  replace X7 := lh (bget' hb X7.o)
  replace HT := lh (TmAt.keep hb hb.size _ _ HT.o)
  replace HQ := lh (TmAt.keep hb hb.size _ _ HQ.o)
  rw [HTB.o]
  clear hb
  clear c00 c01 c02 c03 c04
  go_wp2_with fail
  refine (known_any _).mono ?_
  rintro e wk ⟨rfl, hb⟩
  replace HV := lh (HV.o.trans (hb.mono HV.o.size))
  clear hb
  go_wp2
  go_ret
  exact ⟨rfl, HV.o⟩
 | true =>
  have HTB := lh hHTB; clear hHTB
  cases hHQB : termB q with
  | false =>
   have HQB := lh hHQB; clear hHQB
   obtain ⟨c00, c01, c02, c03, c04⟩ := cells5 X2.o
   obtain ⟨c10, c11, c12, c13, c14⟩ := cells5 X3.o
   go_wp2_with fail
   refine (Alike_any t q _ _ w2 HT.o HQ.o HF HG).mono ?_
   rintro e w3 ⟨he, hb⟩
   replace HV := lh (HV.o.trans (hb.mono HV.o.size))
   replace X2 := lh (bget' hb X2.o)
   replace X3 := lh (bget' hb X3.o)
   replace HT := lh (TmAt.keep hb hb.size _ _ HT.o)
   replace HQ := lh (TmAt.keep hb hb.size _ _ HQ.o)
   obtain rfl := AlikeEnd.no1 he (by rw [HQB.o]; simp)
   clear hb
   clear c00 c01 c02 c03 c04 c10 c11 c12 c13 c14
   obtain ⟨c00, c01, c02, c03, c04⟩ := cells5 X2.o
   go_wp2_with fail
   refine (Canon_any t _ w3 HT.o HF).mono ?_
   rintro e w4 ⟨he, hb⟩
   replace HV := lh (HV.o.trans (hb.mono HV.o.size))
   replace X2 := lh (bget' hb X2.o)
   replace X3 := lh (bget' hb X3.o)
   replace HT := lh (TmAt.keep hb hb.size _ _ HT.o)
   replace HQ := lh (TmAt.keep hb hb.size _ _ HQ.o)
   obtain ⟨vx, rfl, hvx⟩ := CanonEnd.ye1 he HTB.o
   have Hvx := lh hvx
   clear hvx
   obtain ⟨vxa, vxb, vxc, vxd, rfl, -⟩ := Hvx.o.parts
   clear hb
   clear c00 c01 c02 c03 c04
   go_upto_region 5 with fail
   have hb := (Below.refl _ w4).alloc (Nat.le_refl _) (.cells #[.int .i64 (canM t).op, .int .i64 (canM t).n, .string (canM t).text, .slice vxa (canM t).kids.length vxb, .slice vxc (canM t).pats.length vxd] 32)
   have X7n := lh (heap_alloc_new w4 (.cells #[.int .i64 (canM t).op, .int .i64 (canM t).n, .string (canM t).text, .slice vxa (canM t).kids.length vxb, .slice vxc (canM t).pats.length vxd] 32))
   replace HV := lh (HV.o.trans (hb.mono HV.o.size))
   replace X2 := lh (bget' hb X2.o)
   replace X3 := lh (bget' hb X3.o)
   replace HT := lh (TmAt.keep hb hb.size _ _ HT.o)
   replace HQ := lh (TmAt.keep hb hb.size _ _ HQ.o)
   replace Hvx := lh (TmAt.keep hb hb.size _ _ Hvx.o)
   clear hb
   generalize (w4.alloc (.cells #[.int .i64 (canM t).op, .int .i64 (canM t).n, .string (canM t).text, .slice vxa (canM t).kids.length vxb, .slice vxc (canM t).pats.length vxd] 32)) = w5 at *
   have X7 := X7n
   clear X7n
   go_upto_region 5 with fail
   have HR54 := lh (fun (ww : World) (hw : Below w5.heap.size w5 ww) => refCanon_any t _ ww (TmAt.keep hw hw.size _ _ HT.o) (RS_of1 HTB.o HF))
   have HR45 := lh (fun (ww : World) (v : Value) (hw : Below w5.heap.size w5 ww) (hv : TmAt ww.heap.size ww (canR t) v) => by have := Same_any (canM t) (canR t) _ v ww (TmAt.keep hw hw.size _ _ Hvx.o) hv; rw [canR_canM HTB.o HF, eqM_refl] at this; exact this)
   refine reg11t (qa := w.heap.size) (T := t) rfl rfl rfl rfl X2.o X7.o (fun ww hw => by have := C30 t ww (TmAt.keep hw hw.size _ _ HT.o) HF.ok; rw [HTB.o] at this; exact this) HR54.o HR45.o ?_
   intro a9 w6 g1 g2 gk gl g54 hb
   obtain ⟨ts, dsf⟩ := a9
   have e54 : ts.getD 54 undef = .bool false := getD_of g54
   have hkk := fun (k : Nat) (hk : k ∉ ds11) => dite (k < 29) (fun h1 => gk k h1) (fun h1 => dite (54 < k) (fun h2 => gl k h2) (fun h2 => absurd (show k ∈ ds11 by unfold ds11; simp only [List.mem_cons]; omega) hk))
   have hcan := tmps_canon _ ts ds11 (by rw [show ts.size = 84 from g1]; rfl) hkk
   clear hkk
   simp only [ds11, List.foldl_cons, List.foldl_nil, e54] at hcan
   generalize ts.getD 29 undef = u29 at hcan
   generalize ts.getD 30 undef = u30 at hcan
   generalize ts.getD 31 undef = u31 at hcan
   generalize ts.getD 32 undef = u32 at hcan
   generalize ts.getD 33 undef = u33 at hcan
   generalize ts.getD 34 undef = u34 at hcan
   generalize ts.getD 35 undef = u35 at hcan
   generalize ts.getD 36 undef = u36 at hcan
   generalize ts.getD 37 undef = u37 at hcan
   generalize ts.getD 38 undef = u38 at hcan
   generalize ts.getD 39 undef = u39 at hcan
   generalize ts.getD 40 undef = u40 at hcan
   generalize ts.getD 41 undef = u41 at hcan
   generalize ts.getD 42 undef = u42 at hcan
   generalize ts.getD 43 undef = u43 at hcan
   generalize ts.getD 44 undef = u44 at hcan
   generalize ts.getD 45 undef = u45 at hcan
   generalize ts.getD 46 undef = u46 at hcan
   generalize ts.getD 47 undef = u47 at hcan
   generalize ts.getD 48 undef = u48 at hcan
   generalize ts.getD 49 undef = u49 at hcan
   generalize ts.getD 50 undef = u50 at hcan
   generalize ts.getD 51 undef = u51 at hcan
   generalize ts.getD 52 undef = u52 at hcan
   generalize ts.getD 53 undef = u53 at hcan
   simp only [List.setIfInBounds_toArray, List.set_cons_zero, List.set_cons_succ] at hcan
   clear g1 gk gl g54 e54
   subst hcan
   simp only at g2
   subst g2
   replace HV := lh (HV.o.trans (hb.mono HV.o.size))
   replace X2 := lh (bget' hb X2.o)
   replace X3 := lh (bget' hb X3.o)
   replace X7 := lh (bget' hb X7.o)
   replace HT := lh (TmAt.keep hb hb.size _ _ HT.o)
   replace HQ := lh (TmAt.keep hb hb.size _ _ HQ.o)
   replace Hvx := lh (TmAt.keep hb hb.size _ _ Hvx.o)
   clear hb HR54 HR45
   obtain ⟨c00, c01, c02, c03, c04⟩ := cells5 X2.o
   go_wp2_with fail
   refine (C30 t w6 HT.o HF.ok).mono ?_
   rintro e w7 ⟨rfl, hb⟩
   replace HV := lh (HV.o.trans (hb.mono HV.o.size))
   replace X2 := lh (bget' hb X2.o)
   replace X3 := lh (bget' hb X3.o)
   replace X7 := lh (bget' hb X7.o)
   replace HT := lh (TmAt.keep hb hb.size _ _ HT.o)
   replace HQ := lh (TmAt.keep hb hb.size _ _ HQ.o)
   replace Hvx := lh (TmAt.keep hb hb.size _ _ Hvx.o)
   rw [HTB.o]
   clear hb
   clear c00 c01 c02 c03 c04
   obtain ⟨c00, c01, c02, c03, c04⟩ := cells5 X3.o
   go_wp2_with fail
   refine (C30 q w7 HQ.o HG.ok).mono ?_
   rintro e w8 ⟨rfl, hb⟩
   replace HV := lh (HV.o.trans (hb.mono HV.o.size))
   replace X2 := lh (bget' hb X2.o)
   replace X3 := lh (bget' hb X3.o)
   replace X7 := lh (bget' hb X7.o)
   replace HT := lh (TmAt.keep hb hb.size _ _ HT.o)
   replace HQ := lh (TmAt.keep hb hb.size _ _ HQ.o)
   replace Hvx := lh (TmAt.keep hb hb.size _ _ Hvx.o)
   rw [HQB.o]
   clear hb
   clear c00 c01 c02 c03 c04
   go_wp2_with fail
   refine (known_any _).mono ?_
   rintro e wk ⟨rfl, hb⟩
   replace HV := lh (HV.o.trans (hb.mono HV.o.size))
   clear hb
   go_wp2
   go_ret
   exact ⟨rfl, HV.o⟩
  | true =>
   have HQB := lh hHQB; clear hHQB
   obtain ⟨c00, c01, c02, c03, c04⟩ := cells5 X2.o
   obtain ⟨c10, c11, c12, c13, c14⟩ := cells5 X3.o
   go_wp2_with fail
   refine (Alike_any t q _ _ w2 HT.o HQ.o HF HG).mono ?_
   rintro e w3 ⟨he, hb⟩
   replace HV := lh (HV.o.trans (hb.mono HV.o.size))
   replace X2 := lh (bget' hb X2.o)
   replace X3 := lh (bget' hb X3.o)
   replace HT := lh (TmAt.keep hb hb.size _ _ HT.o)
   replace HQ := lh (TmAt.keep hb hb.size _ _ HQ.o)
   obtain rfl := AlikeEnd.ye1 he HTB.o HQB.o
   clear hb
   clear c00 c01 c02 c03 c04 c10 c11 c12 c13 c14
   obtain ⟨bb, hbb⟩ : ∃ bb, bb = eqM (canM t) (canM q) := ⟨_, rfl⟩
   rw [← hbb]
   have HBB := lh hbb; clear hbb
   obtain ⟨c00, c01, c02, c03, c04⟩ := cells5 X2.o
   go_wp2_with fail
   refine (Canon_any t _ w3 HT.o HF).mono ?_
   rintro e w4 ⟨he, hb⟩
   replace HV := lh (HV.o.trans (hb.mono HV.o.size))
   replace X2 := lh (bget' hb X2.o)
   replace X3 := lh (bget' hb X3.o)
   replace HT := lh (TmAt.keep hb hb.size _ _ HT.o)
   replace HQ := lh (TmAt.keep hb hb.size _ _ HQ.o)
   obtain ⟨vx, rfl, hvx⟩ := CanonEnd.ye1 he HTB.o
   have Hvx := lh hvx
   clear hvx
   obtain ⟨vxa, vxb, vxc, vxd, rfl, -⟩ := Hvx.o.parts
   clear hb
   clear c00 c01 c02 c03 c04
   go_upto_region 5 with fail
   have hb := (Below.refl _ w4).alloc (Nat.le_refl _) (.cells #[.int .i64 (canM t).op, .int .i64 (canM t).n, .string (canM t).text, .slice vxa (canM t).kids.length vxb, .slice vxc (canM t).pats.length vxd] 32)
   have X7n := lh (heap_alloc_new w4 (.cells #[.int .i64 (canM t).op, .int .i64 (canM t).n, .string (canM t).text, .slice vxa (canM t).kids.length vxb, .slice vxc (canM t).pats.length vxd] 32))
   replace HV := lh (HV.o.trans (hb.mono HV.o.size))
   replace X2 := lh (bget' hb X2.o)
   replace X3 := lh (bget' hb X3.o)
   replace HT := lh (TmAt.keep hb hb.size _ _ HT.o)
   replace HQ := lh (TmAt.keep hb hb.size _ _ HQ.o)
   replace Hvx := lh (TmAt.keep hb hb.size _ _ Hvx.o)
   clear hb
   generalize (w4.alloc (.cells #[.int .i64 (canM t).op, .int .i64 (canM t).n, .string (canM t).text, .slice vxa (canM t).kids.length vxb, .slice vxc (canM t).pats.length vxd] 32)) = w5 at *
   have X7 := X7n
   clear X7n
   go_upto_region 5 with fail
   have HR54 := lh (fun (ww : World) (hw : Below w5.heap.size w5 ww) => refCanon_any t _ ww (TmAt.keep hw hw.size _ _ HT.o) (RS_of1 HTB.o HF))
   have HR45 := lh (fun (ww : World) (v : Value) (hw : Below w5.heap.size w5 ww) (hv : TmAt ww.heap.size ww (canR t) v) => by have := Same_any (canM t) (canR t) _ v ww (TmAt.keep hw hw.size _ _ Hvx.o) hv; rw [canR_canM HTB.o HF, eqM_refl] at this; exact this)
   refine reg11t (qa := w.heap.size) (T := t) rfl rfl rfl rfl X2.o X7.o (fun ww hw => by have := C30 t ww (TmAt.keep hw hw.size _ _ HT.o) HF.ok; rw [HTB.o] at this; exact this) HR54.o HR45.o ?_
   intro a9 w6 g1 g2 gk gl g54 hb
   obtain ⟨ts, dsf⟩ := a9
   have e54 : ts.getD 54 undef = .bool false := getD_of g54
   have hkk := fun (k : Nat) (hk : k ∉ ds11) => dite (k < 29) (fun h1 => gk k h1) (fun h1 => dite (54 < k) (fun h2 => gl k h2) (fun h2 => absurd (show k ∈ ds11 by unfold ds11; simp only [List.mem_cons]; omega) hk))
   have hcan := tmps_canon _ ts ds11 (by rw [show ts.size = 84 from g1]; rfl) hkk
   clear hkk
   simp only [ds11, List.foldl_cons, List.foldl_nil, e54] at hcan
   generalize ts.getD 29 undef = u29 at hcan
   generalize ts.getD 30 undef = u30 at hcan
   generalize ts.getD 31 undef = u31 at hcan
   generalize ts.getD 32 undef = u32 at hcan
   generalize ts.getD 33 undef = u33 at hcan
   generalize ts.getD 34 undef = u34 at hcan
   generalize ts.getD 35 undef = u35 at hcan
   generalize ts.getD 36 undef = u36 at hcan
   generalize ts.getD 37 undef = u37 at hcan
   generalize ts.getD 38 undef = u38 at hcan
   generalize ts.getD 39 undef = u39 at hcan
   generalize ts.getD 40 undef = u40 at hcan
   generalize ts.getD 41 undef = u41 at hcan
   generalize ts.getD 42 undef = u42 at hcan
   generalize ts.getD 43 undef = u43 at hcan
   generalize ts.getD 44 undef = u44 at hcan
   generalize ts.getD 45 undef = u45 at hcan
   generalize ts.getD 46 undef = u46 at hcan
   generalize ts.getD 47 undef = u47 at hcan
   generalize ts.getD 48 undef = u48 at hcan
   generalize ts.getD 49 undef = u49 at hcan
   generalize ts.getD 50 undef = u50 at hcan
   generalize ts.getD 51 undef = u51 at hcan
   generalize ts.getD 52 undef = u52 at hcan
   generalize ts.getD 53 undef = u53 at hcan
   simp only [List.setIfInBounds_toArray, List.set_cons_zero, List.set_cons_succ] at hcan
   clear g1 gk gl g54 e54
   subst hcan
   simp only at g2
   subst g2
   replace HV := lh (HV.o.trans (hb.mono HV.o.size))
   replace X2 := lh (bget' hb X2.o)
   replace X3 := lh (bget' hb X3.o)
   replace X7 := lh (bget' hb X7.o)
   replace HT := lh (TmAt.keep hb hb.size _ _ HT.o)
   replace HQ := lh (TmAt.keep hb hb.size _ _ HQ.o)
   replace Hvx := lh (TmAt.keep hb hb.size _ _ Hvx.o)
   clear hb HR54 HR45
   obtain ⟨c00, c01, c02, c03, c04⟩ := cells5 X2.o
   go_wp2_with fail
   refine (C30 t w6 HT.o HF.ok).mono ?_
   rintro e w7 ⟨rfl, hb⟩
   replace HV := lh (HV.o.trans (hb.mono HV.o.size))
   replace X2 := lh (bget' hb X2.o)
   replace X3 := lh (bget' hb X3.o)
   replace X7 := lh (bget' hb X7.o)
   replace HT := lh (TmAt.keep hb hb.size _ _ HT.o)
   replace HQ := lh (TmAt.keep hb hb.size _ _ HQ.o)
   replace Hvx := lh (TmAt.keep hb hb.size _ _ Hvx.o)
   rw [HTB.o]
   clear hb
   clear c00 c01 c02 c03 c04
   obtain ⟨c00, c01, c02, c03, c04⟩ := cells5 X3.o
   go_wp2_with fail
   refine (C30 q w7 HQ.o HG.ok).mono ?_
   rintro e w8 ⟨rfl, hb⟩
   replace HV := lh (HV.o.trans (hb.mono HV.o.size))
   replace X2 := lh (bget' hb X2.o)
   replace X3 := lh (bget' hb X3.o)
   replace X7 := lh (bget' hb X7.o)
   replace HT := lh (TmAt.keep hb hb.size _ _ HT.o)
   replace HQ := lh (TmAt.keep hb hb.size _ _ HQ.o)
   replace Hvx := lh (TmAt.keep hb hb.size _ _ Hvx.o)
   rw [HQB.o]
   clear hb
   clear c00 c01 c02 c03 c04
   have HAL := lh (refAlike_any t q _ _ w8 HT.o HQ.o (RS_of1 HTB.o HF) (RS_of1 HQB.o HG))
   rw [canR_canM HTB.o HF, canR_canM HQB.o HG, ← HBB.o] at HAL
   clear HBB
   cases bb
   ·obtain ⟨c00, c01, c02, c03, c04⟩ := cells5 X2.o
    obtain ⟨c10, c11, c12, c13, c14⟩ := cells5 X3.o
    go_wp2_with fail
    refine HAL.o.mono ?_
    rintro e w9 ⟨rfl, hb⟩
    replace HV := lh (HV.o.trans (hb.mono HV.o.size))
    clear hb HAL c00 c01 c02 c03 c04 c10 c11 c12 c13 c14
    go_wp2_with fail
    refine (known_any _).mono ?_
    rintro e wk ⟨rfl, hb⟩
    replace HV := lh (HV.o.trans (hb.mono HV.o.size))
    clear hb
    go_wp2
    go_ret
    exact ⟨rfl, HV.o⟩
   ·obtain ⟨c00, c01, c02, c03, c04⟩ := cells5 X2.o
    obtain ⟨c10, c11, c12, c13, c14⟩ := cells5 X3.o
    go_wp2_with fail
    refine HAL.o.mono ?_
    rintro e w9 ⟨rfl, hb⟩
    replace HV := lh (HV.o.trans (hb.mono HV.o.size))
    clear hb HAL c00 c01 c02 c03 c04 c10 c11 c12 c13 c14
    go_wp2_with fail
    refine (known_any _).mono ?_
    rintro e wk ⟨rfl, hb⟩
    replace HV := lh (HV.o.trans (hb.mono HV.o.size))
    clear hb
    go_wp2
    go_ret
    exact ⟨rfl, HV.o⟩
end Go.Proofs.YtjpahjfjpkbcnaaGreat
namespace Go.Proofs.YtjpahjfjpkbcnaaGreat
open Go.ChangeShapes Go.WideShapes Go.ChangeAt Go.RowKit
open Go.ChangeMaps (open_string shut_string)
set_option maxRecDepth 100000 in
theorem termAlikes_lifted (os : Os) (started : os.Started) (H : Type) (enc : TypeId × Value → H) :
  ReturnsInHanded {} Tryz.checked os 11 .any (Rows.termAlikesSpec.pre6 enc Tryz.prog Tryz.f11 Rows.termAlikesRow.domain false) (Rows.termAlikesSpec.post enc Tryz.prog Tryz.f11 false true false false) := by
 refine returnsInHanded_of_change (C := Tryz.checked) Tryz.own started (by kernel_rfl) Tryz.func11
  (ChangeSpec.witness6 (enc := enc) (C := Tryz.checked) false ⟨#[], #[.agg #[.int .i64 0, .int .i64 0, .string ⟨#[]⟩, .slice none 0 0, .slice none 0 0], .agg #[.int .i64 0, .int .i64 0, .string ⟨#[]⟩, .slice none 0 0, .slice none 0 0]], []⟩ 8 (by kernel_rfl) (by kernel_rfl) (by kernel_rfl) (by kernel_rfl)) ?_
 intro W base args ds gs before hval0 hW hcnd _
 have hval : ∀ (j : Nat) t v, Tryz.f11.params[j]? = some t → args[j]? = some v → Value.okWide Tryz.prog W .any base t v := hval0
 have hW' := hW
 obtain ⟨p, q, hA0, hV, rfl, hfz, hnd⟩ := hW
 have hA : DataW.TrodAll enc Tryz.prog W 0 (fun _ => true) true Tryz.f11.params.toList args.toList ds p := hA0
 rw [Tryz.params11] at hA hval
 obtain ⟨v0, v1, d0, d1, p0, p1, rfl, rfl, rfl, h0, h1⟩ := trodAll_two hA
 obtain ⟨rfl, rfl⟩ := trodVars_none hV
 have h0k := h0
 have h1k := h1
 obtain ⟨T0, hT0⟩ := open_tm (hval 0 32 v0 rfl rfl) h0
 obtain ⟨T1, hT1⟩ := open_tm (hval 1 32 v1 rfl rfl) h1
 clear hA0 hval0
 simp only [List.append_nil] at hW'
 have hlt : ∀ x ∈ p0 ++ p1, x.block < W.heap.size := fun x hx => by simpa using hW'.lt x hx
 refine (alikes_any T0 T1 v0 v1 W hT0 hT1).mono fun e W' ⟨he, hnx⟩ => ?_
 subst he
 refine ⟨_, rfl, _, _, _, [] ++ [], p0 ++ p1, [], hW', ?_, ?_, rfl, hnx.frame _, fun h => by cases h⟩
 ·exact trodAll_mk1 (shut_bool Tryz.underlying4 true)
 ·exact trodAll_mk2 (Below.trod Tryz.laidOut (by kernel_rfl) (of_decide_eq_true (by kernel_rfl)) h0k hnx (fun x hx => hlt x (List.mem_append_left _ hx))) (Below.trod Tryz.laidOut (by kernel_rfl) (of_decide_eq_true (by kernel_rfl)) h1k hnx (fun x hx => hlt x (List.mem_append_right _ hx)))
theorem termAlikes_holds : Rows.TermAlikesSaid :=
 OpenClaim.holds_of_wide 11 Tryz.f11 rfl rfl rfl rfl rfl rfl rfl ⟨rfl, rfl, rfl, rfl, rfl⟩ rfl rfl rfl rfl rfl (by kernel_rfl) Tryz.func11 (by kernel_rfl)
  (of_decide_eq_true (by kernel_rfl)) (by unfold Func.isWrapper; first | (rw [if_pos (by decide +kernel)]; kernel_rfl) | (rw [if_neg (by decide +kernel)]; exact ⟨rfl, rfl⟩))
  (fun os started H enc _ => termAlikes_lifted os started H enc)
end Go.Proofs.YtjpahjfjpkbcnaaGreat
