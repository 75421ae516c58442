"""Rows of bytes with marks that mend them."""
