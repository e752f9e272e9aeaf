/- What each Kind of statements asks; blocks; lists. Conditions: the looker lies in memory, the statements are of a Kind. -/
import Derived.Test.YtpcdlneompnhlaaGreatDoorTyO
import Derived.Test.YtpcdlneompnhlaaGreatDoorTyN
import Derived.Test.YtpcdlneompnhlaaGreatDoorTyI
namespace Go.Proofs.YtpcdlneompnhlaaGreatDoor.Ty
open Go Go.RowKit
open Go.Proofs.YtpcdlneompnhlaaGreatDoor.Lx Go.Proofs.YtpcdlneompnhlaaGreatDoor.Tr

theorem St.sz_eq (k : Int) (nm to : ByteArray) (new : Bool) (ea : Option Addr) (ec : Nat) (e : List Ex) (ba : Option Addr) (bc : Nat) (body : List St) (la : Option Addr) (lc : Nat) (els : List St) (pos : Int) : St.sz (.mk k nm to new ea ec e ba bc body la lc els pos) = 1 + Ex.szL e + St.szL body + St.szL els := by conv => lhs; unfold St.sz
theorem contB_of {n : Nat} (hL : ContL n) : ContB n := fun c s w a cap l hsz hok hrow hin h hp =>
  block_step n hL c s w a cap l (fun e he => by
    obtain ⟨i, hi⟩ := List.mem_iff_getElem?.1 he
    exact Nat.le_trans (St.sz_get hi) hsz) hok hrow hin h hp
set_option maxHeartbeats 1000000 in
theorem contS_step (n : Nat) (hL : ContL n) : ContS (n + 1) := by
  intro c s w e hsz hok hin h hp
  obtain ⟨k, nm, to, new, ea, ec, e, ba, bc, body, la, lc, els, pos⟩ := e
  rw [St.sz_eq] at hsz
  rw [okS_eq] at hok
  obtain ⟨⟨hk1, hk9, hle⟩, hoke, hokb, hokl⟩ := hok
  have hB := contB_of hL
  rw [stK_eq]
  have hk : k = 1 ∨ k = 2 ∨ k = 3 ∨ k = 4 ∨ k = 5 ∨ k = 6 ∨ k = 7 ∨ k = 8 ∨ k = 9 := by omega
  rcases hk with rfl | rfl | rfl | rfl | rfl | rfl | rfl | rfl | rfl
  · rw [if_pos rfl]
    cases e with
    | nil => simp [stLeast] at hle
    | cons x r => exact let_c 1 nm to new ea ec (x :: r) ba bc body la lc els pos x rfl hoke hin h
  · rw [if_neg (by decide), if_pos rfl]
    exact set_c 2 nm to new ea ec e ba bc body la lc els pos hoke hin h
  · rw [if_neg (by decide), if_neg (by decide), if_pos rfl]
    exact put_c 3 nm to new ea ec e ba bc body la lc els pos hoke hin h
  · rw [if_neg (by decide), if_neg (by decide), if_neg (by decide), if_pos (Or.inl rfl)]
    exact branch_c 4 nm to new ea ec e ba bc body la lc els pos n hB (by omega) (by omega) hokb hokl hp hoke hin h
  · rw [if_neg (by decide), if_neg (by decide), if_neg (by decide), if_pos (Or.inr rfl)]
    exact branch_c 5 nm to new ea ec e ba bc body la lc els pos n hB (by omega) (by omega) hokb hokl hp hoke hin h
  · rw [if_neg (by decide), if_neg (by decide), if_neg (by decide), if_neg (by decide), if_pos rfl]
    exact with_c 6 nm to new ea ec e ba bc body la lc els pos n hB (by omega) hokb hp hin h
  · rw [if_neg (by decide), if_neg (by decide), if_neg (by decide), if_neg (by decide), if_neg (by decide), if_pos rfl]
    exact print_c 7 nm to new ea ec e ba bc body la lc els pos hoke hin h
  · rw [if_neg (by decide), if_neg (by decide), if_neg (by decide), if_neg (by decide), if_neg (by decide), if_neg (by decide), if_pos rfl]
    exact call_c 8 nm to new ea ec e ba bc body la lc els pos hp hoke hin h
  · rw [if_neg (by decide), if_neg (by decide), if_neg (by decide), if_neg (by decide), if_neg (by decide), if_neg (by decide), if_neg (by decide)]
    exact leave_c 9 nm to new ea ec e ba bc body la lc els pos hoke hin h
theorem contS : ∀ n, ContS n
  | 0 => fun _ _ _ e hsz _ _ _ _ => by
    obtain ⟨k, nm, to, new, ea, ec, e, ba, bc, body, la, lc, els, pos⟩ := e
    rw [St.sz_eq] at hsz
    omega
  | n + 1 => contS_step n (list_step n (contS n))
theorem list_c {c : Lc} {s : Ls} {w : World} (h : Lk c s w) (a : Option Addr) (cap : Nat) (l : List St) (whole : Bool) (hok : okSL l) (hrow : RowAt w (fun b => b < c.B) a cap l.length (stCells l)) (hin : St.InL w (fun b => b < c.B) l) (hp : s.pos < c.ds.length) :
    Calls Tryz.prog 136 #[.pointer (some ⟨c.lb, 0, none⟩), .slice a l.length cap, .bool whole] w (PostS c s w (listK c.ds c.D s.pos whole s.ps l)) :=
  list_step (St.szL l) (contS _) c s w a cap l whole (fun e he => by
    obtain ⟨i, hi⟩ := List.mem_iff_getElem?.1 he
    exact St.sz_get hi) hok hrow hin h hp
end Go.Proofs.YtpcdlneompnhlaaGreatDoor.Ty
